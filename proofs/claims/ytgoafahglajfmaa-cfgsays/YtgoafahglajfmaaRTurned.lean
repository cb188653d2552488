/-
  The contract of pushref.Turned.
-/
import Derived.Test.YtgoafahglajfmaaTuHold
namespace Go.Proofs.Ytgoafahglajfmaa
open Go.RowKit
open Cg

/-- A Body in the making, in a production's box: m symbols, from behind, are there. -/
structure IR (w5 : World) (B p : Nat) (x : Int) (bv : Value) (m : Nat) (l : List Sy) (w : World) : Prop where
  keep : Below p w5 w
  eqp : w5.heap.size = p
  eqB : p + 1 = B
  box : w.heap[p]? = some (.cells #[.int .i64 x, bv] 36)
  row : w.ownsRow B 44 2 bv m (scs (l.reverse.take m))
theorem own_keep {w w' : World} {B : Nat} {e : TypeId} {size : Nat} {v : Value} {n : Nat} {xs : List Value} (h : w.ownsRow B e size v n xs) (hb : ∀ b, v.ownBlock = some b → w'.heap[b]? = w.heap[b]?) : w'.ownsRow B e size v n xs := by
  refine ⟨h.1, h.2.imp id ?_⟩
  rintro ⟨g, cap, cur, rfl, h1, h2, h3⟩
  exact ⟨g, cap, cur, rfl, h1, (hb g rfl).trans h2, h3⟩
theorem IR.step {w5 : World} {B p : Nat} {x : Int} {bv : Value} {m : Nat} {l : List Sy} {wr V : World} (h : IR w5 B p x bv m l wr) {gr cr : Nat} {s0 s1 : Int} (hg : wr.grownBy V bv.ownBlock) (hr : V.ownsRow B 44 2 (.slice (some ⟨gr, 0, none⟩) (m + 1) cr) (m + 1) (scs (l.reverse.take m) ++ [.int .i64 s0, .int .i64 s1]))
    (hs : l.reverse.take (m + 1) = l.reverse.take m ++ [(s0, s1)]) : IR w5 B p x (.slice (some ⟨gr, 0, none⟩) (m + 1) cr) (m + 1) l (V.setCell ⟨p, 1, none⟩ (.slice (some ⟨gr, 0, none⟩) (m + 1) cr)) := by
  obtain ⟨h1, h2, h3, h4, h5⟩ := h
  have hpl : p < wr.heap.size := by
    rcases Nat.lt_or_ge p wr.heap.size with h' | h'
    · exact h'
    · rw [Array.getElem?_eq_none h'] at h4; cases h4
  have hpo : some p ≠ bv.ownBlock := fun e => by have := own_ge h5 p e.symm; omega
  have hbV := (hg.block p hpl hpo).trans h4
  have hbb : Below p w5 V := ⟨hg.os.trans h1.os, hg.tape.trans h1.tape, hg.output.trans h1.output, Nat.le_trans h1.size hg.size, fun k hk => (hg.block k (by omega) (fun e => by have := own_ge h5 k e.symm; omega)).trans (h1.block k hk)⟩
  refine ⟨hbb.setCell (p := ⟨p, 1, none⟩) (Nat.le_refl _) _, h2, h3, ?_, ?_⟩
  · have := block_store (i := 1) hbV (.slice (some ⟨gr, 0, none⟩) (m + 1) cr)
    simpa using this
  · refine own_keep (v := .slice (some ⟨gr, 0, none⟩) (m + 1) cr) (xs := scs (l.reverse.take (m + 1))) (by rw [hs, scs_append]; exact hr) fun b hb => ?_
    have := own_ge hr b hb
    rw [Below.heap_setCell _ _ _ _ (by simp; omega)]
theorem own_row {w : World} {base e size n : Nat} {v : Value} {xs : List Value} (h : w.ownsRow base e size v n xs) : ∃ ao c, v = .slice ao n c := by
  rcases h.2 with ⟨hv, h0⟩ | ⟨g, cap, cur, hv, _⟩
  · exact ⟨none, 0, by rw [hv, h0]⟩
  · exact ⟨_, _, hv⟩
/-- The cells of productions in a row. -/
def pcs (ps : List Pd) (U : Nat → Value) (q : Nat) : List Value := (List.range q).flatMap fun i => [.int .i64 (ps.getD i (0, [])).1, U i]
theorem pcs_len (ps : List Pd) (U : Nat → Value) (q : Nat) : (pcs ps U q).length = q * 2 := by
  induction q with
  | zero => rfl
  | succ q ih => unfold pcs at ih ⊢; rw [List.range_succ, List.flatMap_append, List.length_append, ih]; simp; omega
theorem pcs_step (ps : List Pd) (U : Nat → Value) (q : Nat) : pcs ps U (q + 1) = pcs ps U q ++ [.int .i64 (ps.getD q (0, [])).1, U q] := by
  unfold pcs; rw [List.range_succ, List.flatMap_append]; simp
theorem pcs_congr (ps : List Pd) (U U' : Nat → Value) (q : Nat) (h : ∀ i, i < q → U i = U' i) : pcs ps U q = pcs ps U' q := by
  induction q with
  | zero => rfl
  | succ q ih => rw [pcs_step, pcs_step, ih fun i hi => h i (by omega), h q (by omega)]
theorem pcs_at (ps : List Pd) (U : Nat → Value) (q i : Nat) (hi : i < q) : (pcs ps U q)[i * 2]? = some (.int .i64 (ps.getD i (0, [])).1) ∧ (pcs ps U q)[i * 2 + 1]? = some (U i) := by
  induction q with
  | zero => omega
  | succ q ih =>
    rw [pcs_step]
    have hl := pcs_len ps U q
    by_cases e : i = q
    · subst e
      rw [List.getElem?_append_right (by omega), List.getElem?_append_right (by omega), hl]
      simp
    · rw [List.getElem?_append_left (by omega), List.getElem?_append_left (by omega)]
      exact ih (by omega)
/-- What is held when q productions are turned round. -/
structure TR (W0 : World) (t n : Int) (ps : List Pd) (q : Nat) (v : Value) (W : World) : Prop where
  keep : Below W0.heap.size W0 W
  box : W.heap[W0.heap.size]? = some (.cells #[.int .i64 t, .int .i64 n, v] 24)
  row : ∃ U : Nat → Value, W.ownsRow (W0.heap.size + 1) 36 2 v q (pcs ps U q) ∧ ∀ i (hi : i < ps.length), i < q → Syms W (U i) ps[i].2.reverse ∧ ∀ k, (U i).ownBlock = some k → W0.heap.size + 1 ≤ k ∧ k < W.heap.size ∧ v.ownBlock ≠ some k
theorem pds_own {W0 : World} {ps : List Pd} {v : Value} {W : World} {U : Nat → Value} (hrow : W.ownsRow (W0.heap.size + 1) 36 2 v ps.length (pcs ps U ps.length)) (hU : ∀ i (hi : i < ps.length), Syms W (U i) ps[i].2.reverse) (hm : ps.length ≤ 40) : Pds W v (turn ps) := by
  obtain ⟨hl, ⟨h1, h2⟩ | ⟨g, cap, cur, hv, hg, hh, hn, hc, hs, ht⟩⟩ := hrow
  · have e : ps = [] := List.length_eq_zero_iff.1 h2
    subst e; rw [h1]; exact pds_nil _
  · refine ⟨some ⟨g, 0, none⟩, cap, by rw [turn_length]; exact hv, by rw [turn_length]; omega, Or.inr ⟨g, 0, rfl, ?_, fun i hi => ?_⟩⟩
    · rcases Nat.lt_or_ge g W.heap.size with h' | h'
      · exact h'
      · simp [Array.getElem?_eq_none h'] at hh
    · have hi' : i < ps.length := by rw [turn_length] at hi; exact hi
      obtain ⟨f0, f1⟩ := pcs_at ps U ps.length i hi'
      have e : ∀ j, j < 2 → W.cell? ⟨g, 0 + i * 2 + j, none⟩ = (pcs ps U ps.length)[i * 2 + j]? := fun j hj => by
        have e1 : W.cell? ⟨g, 0 + i * 2 + j, none⟩ = cur[i * 2 + j]? := by simp [World.cell?, hh]
        rw [e1, ← ht, List.getElem?_take_of_lt (by omega)]; simp
      have g0 : ps.getD i (0, []) = ps[i] := by rw [List.getD_eq_getElem?_getD, List.getElem?_eq_getElem hi']; rfl
      rw [g0] at f0
      have et : (turn ps)[i] = turnP ps[i] := by simp [turn]
      rw [et]
      exact ⟨(e 0 (by omega)).trans f0, U i, (e 1 (by omega)).trans f1, hU i hi'⟩
theorem TR.pds_three {W0 : World} {t n : Int} {ps : List Pd} {v : Value} {W : World} (h : TR W0 t n ps ps.length v W) (hm : ps.length ≤ 40) {k : Nat} (hk : k < W0.heap.size) (x y z : Value) : Pds (((W.setCell ⟨k, 0, none⟩ x).setCell ⟨k, 1, none⟩ y).setCell ⟨k, 2, none⟩ z) v (turn ps) := by
  have hsm : ∀ i, i ≠ k → (((W.setCell ⟨k, 0, none⟩ x).setCell ⟨k, 1, none⟩ y).setCell ⟨k, 2, none⟩ z).heap[i]? = W.heap[i]? := fun i hi => by
    rw [Below.heap_setCell _ _ _ _ (by simpa using hi), Below.heap_setCell _ _ _ _ (by simpa using hi), Below.heap_setCell _ _ _ _ (by simpa using hi)]
  have hsz : (((W.setCell ⟨k, 0, none⟩ x).setCell ⟨k, 1, none⟩ y).setCell ⟨k, 2, none⟩ z).heap.size = W.heap.size := by simp [World.setCell]
  obtain ⟨h1, h2, U, h3, h4⟩ := h
  refine pds_own (W0 := W0) (U := U) (own_keep h3 fun b hb => hsm b (by have := own_ge h3 b hb; omega)) (fun i hi => (h4 i hi hi).1.same (fun q hq => hsm q (by have := ((h4 i hi hi).2 q hq).1; omega)) (by rw [hsz]; exact Nat.le_refl _)) hm
theorem TR.step {W0 : World} {t n : Int} {ps : List Pd} {q : Nat} {v : Value} {wr : World} (h : TR W0 t n ps q v wr) {U : Nat → Value} (hrow : wr.ownsRow (W0.heap.size + 1) 36 2 v q (pcs ps U q)) (hU : ∀ i (hi : i < ps.length), i < q → Syms wr (U i) ps[i].2.reverse ∧ ∀ k, (U i).ownBlock = some k → W0.heap.size + 1 ≤ k ∧ k < wr.heap.size ∧ v.ownBlock ≠ some k)
    (hq : q < ps.length) (x : Int) (l : List Sy) (hx : ps[q].1 = x) (hl : ps[q].2 = l) (bv : Value) (hs : Syms wr bv l.reverse) (hbk : ∀ k, bv.ownBlock = some k → W0.heap.size + 1 ≤ k ∧ k < wr.heap.size ∧ v.ownBlock ≠ some k) (O : Obj) (g cap : Nat) (w6 : World)
    (hown : w6.ownsRow (W0.heap.size + 1) 36 2 (.slice (some ⟨g, 0, none⟩) (q + 1) cap) (q + 1) (pcs ps U q ++ [.int .i64 x, bv])) (hgrow : (wr.alloc O).grownBy w6 v.ownBlock) (hor : v.ownBlock = some g ∨ g = (wr.alloc O).heap.size) :
    TR W0 t n ps (q + 1) (.slice (some ⟨g, 0, none⟩) (q + 1) cap) (w6.setCell ⟨W0.heap.size, 2, none⟩ (.slice (some ⟨g, 0, none⟩) (q + 1) cap)) := by
  subst hx hl
  have hasz : (wr.alloc O).heap.size = wr.heap.size + 1 := by simp
  have hlt0 : W0.heap.size < wr.heap.size := by
    rcases Nat.lt_or_ge W0.heap.size wr.heap.size with h' | h'
    · exact h'
    · have := h.box; rw [Array.getElem?_eq_none h'] at this; cases this
  have hblk : ∀ k, k < wr.heap.size → some k ≠ v.ownBlock → w6.heap[k]? = wr.heap[k]? := fun k hk hn => (hgrow.block k (by omega) hn).trans ((below_alloc wr O).block k hk)
  have hno : ∀ k, k ≤ W0.heap.size → some k ≠ v.ownBlock := fun k hk e => by have := own_ge hrow k e.symm; omega
  have hbox := (hblk _ hlt0 (hno _ (Nat.le_refl _))).trans h.box
  have hsz : (w6.setCell ⟨W0.heap.size, 2, none⟩ (.slice (some ⟨g, 0, none⟩) (q + 1) cap)).heap.size = w6.heap.size := by simp [World.setCell]
  have hoth : ∀ k, k ≠ W0.heap.size → (w6.setCell ⟨W0.heap.size, 2, none⟩ (.slice (some ⟨g, 0, none⟩) (q + 1) cap)).heap[k]? = w6.heap[k]? := fun k hk => Below.heap_setCell _ _ _ _ (by simpa using hk)
  have h6 := hgrow.size
  have hmove : ∀ (u : Value) (m : List Sy), Syms wr u m → (∀ k, u.ownBlock = some k → W0.heap.size + 1 ≤ k ∧ k < wr.heap.size ∧ v.ownBlock ≠ some k) → Syms (w6.setCell ⟨W0.heap.size, 2, none⟩ (.slice (some ⟨g, 0, none⟩) (q + 1) cap)) u m ∧ ∀ k, u.ownBlock = some k → W0.heap.size + 1 ≤ k ∧ k < (w6.setCell ⟨W0.heap.size, 2, none⟩ (.slice (some ⟨g, 0, none⟩) (q + 1) cap)).heap.size ∧ (Value.slice (some ⟨g, 0, none⟩) (q + 1) cap).ownBlock ≠ some k := fun u m hu hk => by
    refine ⟨hu.same (fun k e => ?_) (by rw [hsz]; omega), fun k e => ?_⟩
    · obtain ⟨k1, k2, k3⟩ := hk k e
      rw [hoth k (by omega)]
      exact hblk k k2 (fun e => k3 e.symm)
    · obtain ⟨k1, k2, k3⟩ := hk k e
      refine ⟨k1, by rw [hsz]; omega, fun e2 => ?_⟩
      simp [Value.ownBlock] at e2
      subst e2
      rcases hor with h' | h'
      · exact k3 h'
      · omega
  refine ⟨?_, ?_, fun i => if i = q then bv else U i, ?_, fun i hi hlt => ?_⟩
  · have hb6 : Below W0.heap.size W0 w6 := ⟨hgrow.os.trans h.keep.os, hgrow.tape.trans h.keep.tape, hgrow.output.trans h.keep.output, by omega, fun k hk => (hblk k (by omega) (hno k (by omega))).trans (h.keep.block k hk)⟩
    exact hb6.setCell (p := ⟨W0.heap.size, 2, none⟩) (Nat.le_refl _) _
  · have := block_store (i := 2) hbox (.slice (some ⟨g, 0, none⟩) (q + 1) cap)
    simpa using this
  · refine own_keep (xs := pcs ps (fun i => if i = q then bv else U i) (q + 1)) ?_ fun k hk => hoth k ?_
    · rw [pcs_step, pcs_congr ps (fun i => if i = q then bv else U i) U q (fun i hi => if_neg (by omega)), show ps.getD q (0, []) = ps[q] by rw [List.getD_eq_getElem?_getD, List.getElem?_eq_getElem hq]; rfl]
      simp only [if_true]
      exact hown
    · have := own_ge hown k hk; omega
  · by_cases e : i = q
    · subst e
      simp only [if_true]
      exact hmove bv _ hs hbk
    · simp only [if_neg e]
      obtain ⟨k1, k2⟩ := hU i hi (by omega)
      exact hmove (U i) _ k1 k2
theorem TR.next {W0 : World} {t n : Int} {ps : List Pd} {q : Nat} {v : Value} {W W' : World} (h : TR W0 t n ps q v W) (hb : Below W.heap.size W W') : TR W0 t n ps q v W' := by
  obtain ⟨h1, h2, U, h3, h4⟩ := h
  exact ⟨h1.trans (hb.mono h1.size), box_next h2 hb, U, own_below h3 hb, fun i hi hq => ⟨(h4 i hi hq).1.below hb, fun k hk => ⟨((h4 i hi hq).2 k hk).1, Nat.lt_of_lt_of_le ((h4 i hi hq).2 k hk).2.1 hb.size, ((h4 i hi hq).2 k hk).2.2⟩⟩⟩
set_option maxHeartbeats 8000000 in
set_option maxRecDepth 20000 in
theorem Turned_any (t n : Int) (pv : Value) (ps : List Pd) (w : World) (h : Pds w pv ps) (hok : chk t n ps = 0) :
    Calls Try.prog 10 #[.agg #[.int .i64 t, .int .i64 n, pv]] w fun e w' => ∃ a c, e = .returned (.agg #[.int .i64 t, .int .i64 n, .slice a ps.length c]) ∧ Pds w' (.slice a ps.length c) (turn ps) ∧ Below w.heap.size w w' := by
  have hpl := (chk_zero hok).2.1
  obtain ⟨i0, hi0, hz0, hz1, hz2⟩ := info_parts info44
  obtain ⟨i1, hi1, hy0, hy1, hy2⟩ := info_parts info36
  have HCP : Hid (∀ q (hq : q < ps.length), ps[q].2.length ≤ 8) := fun q hq => (chkP_zero ((chk_zero hok).2.2 ps[q] (List.getElem_mem hq))).1
  obtain ⟨ao, c, rfl, hm, hcs⟩ := h
  have h' : Pds w (.slice ao ps.length c) ps := ⟨ao, c, rfl, hm, hcs⟩
  have HG0 : Hid (Gb w w.heap.size t n (.slice ao ps.length c) ps ((w.alloc (Obj.cells #[.int .i64 t, .int .i64 n, .slice ao ps.length c] 24)).alloc (Obj.cells #[.int .i64 0, .int .i64 0, .slice none 0 0] 24))) := (Gb.box h' t n).next (below_alloc _ _)
  have HB0 : Hid (((w.alloc (Obj.cells #[.int .i64 t, .int .i64 n, .slice ao ps.length c] 24)).alloc (Obj.cells #[.int .i64 0, .int .i64 0, .slice none 0 0] 24)).heap[w.heap.size + 1]? = some (Obj.cells #[.int .i64 0, .int .i64 0, .slice none 0 0] 24)) := by
    have := heap_alloc_new (w.alloc (Obj.cells #[.int .i64 t, .int .i64 n, .slice ao ps.length c] 24)) (Obj.cells #[.int .i64 0, .int .i64 0, .slice none 0 0] 24)
    rw [show (w.alloc (Obj.cells #[.int .i64 t, .int .i64 n, .slice ao ps.length c] 24)).heap.size = w.heap.size + 1 by simp] at this
    exact this
  have HS0 : Hid (((w.alloc (Obj.cells #[.int .i64 t, .int .i64 n, .slice ao ps.length c] 24)).alloc (Obj.cells #[.int .i64 0, .int .i64 0, .slice none 0 0] 24)).heap.size = w.heap.size + 2) := by show _ = _; simp
  have HT0 : Hid (TR ((w.alloc (Obj.cells #[.int .i64 t, .int .i64 n, .slice ao ps.length c] 24)).alloc (Obj.cells #[.int .i64 0, .int .i64 0, .slice none 0 0] 24)) t n ps 0 (.slice none 0 0) (((w.alloc (Obj.cells #[.int .i64 t, .int .i64 n, .slice ao ps.length c] 24)).alloc (Obj.cells #[.int .i64 0, .int .i64 0, .slice none 0 0] 24)).alloc (Obj.cells #[.int .i64 t, .int .i64 n, .slice none 0 0] 24))) :=
    ⟨below_alloc _ _, heap_alloc_new _ _, fun _ => .slice none 0 0, World.ownsRow_nil _ _ _ _, fun i _ hi => absurd hi (Nat.not_lt_zero _)⟩
  clear hok h'
  go_enter Try.func10, Try.ntmps10
  go_wp2_with fail
  generalize ((w.alloc (Obj.cells #[.int .i64 t, .int .i64 n, .slice ao ps.length c] 24)).alloc (Obj.cells #[.int .i64 0, .int .i64 0, .slice none 0 0] 24)).alloc (Obj.cells #[.int .i64 t, .int .i64 n, .slice none 0 0] 24) = wb at HT0 ⊢
  generalize (w.alloc (Obj.cells #[.int .i64 t, .int .i64 n, .slice ao ps.length c] 24)).alloc (Obj.cells #[.int .i64 0, .int .i64 0, .slice none 0 0] 24) = W0 at HG0 HB0 HS0 HT0
  go_loopw [4] (fun i wr => ∃ (q : Nat) (v : Value), q ≤ ps.length ∧ i = .int .i64 (q : Int) ∧ Hid (TR W0 t n ps q v wr)) (fun i _ => ps.length - (intOf i).toNat)
  case atStart => exact ⟨0, _, by omega, rfl, HT0⟩
  case round =>
    obtain ⟨q, v, hq, rfl, HT⟩ := hrel
    clear HT0
    have HG : Hid (Gb w w.heap.size t n (.slice ao ps.length c) ps wr) := HG0.out.next HT.out.keep
    have z0 := HG.out.c0
    have z1 := HG.out.c1
    have z2 := HG.out.c2
    by_cases hlt : q < ps.length
    · obtain ⟨b, o, rfl, hb, hc⟩ := hcs.resolve_left (by intro e; subst e; simp at hlt)
      have hbw : Below w.heap.size w wr := HG.out.below
      obtain ⟨d0, u, d1, hsy⟩ := hc q hlt
      have HL8 : Hid (ps[q].2.length ≤ 8) := HCP.out q hlt
      have HSY0 : Hid (Syms w u ps[q].2) := hsy
      obtain ⟨x, HX⟩ : ∃ x, Hid (ps[q].1 = x) := ⟨_, (rfl : ps[q].1 = ps[q].1)⟩
      obtain ⟨l, HL⟩ : ∃ l, Hid (ps[q].2 = l) := ⟨_, (rfl : ps[q].2 = ps[q].2)⟩
      rw [HL.out] at HSY0 HL8
      rw [HX.out] at d0
      replace d0 : wr.cell? ⟨b, o + q * 2, none⟩ = _ := (hbw.cell (p := ⟨b, o + q * 2, none⟩) hb).trans d0
      replace d1 : wr.cell? ⟨b, o + q * 2 + 1, none⟩ = _ := (hbw.cell (p := ⟨b, o + q * 2 + 1, none⟩) hb).trans d1
      have e1 : (wr.alloc (Obj.cells #[.int .i64 x, .slice none 0 0] 36)).cell? ⟨b, o + q * 2 + 1, none⟩ = _ := ((below_alloc wr _).cell (p := ⟨b, o + q * 2 + 1, none⟩) (Nat.lt_of_lt_of_le hb hbw.size)).trans d1
      have e2 : (wr.alloc (Obj.cells #[.int .i64 x, .slice none 0 0] 36)).cell? ⟨w.heap.size, 2, none⟩ = _ := ((below_alloc wr _).cell (p := ⟨w.heap.size, 2, none⟩) HG.out.lt).trans z2
      have HI0 : Hid (IR wr (wr.heap.size + 1) wr.heap.size x (.slice none 0 0) 0 l (wr.alloc (Obj.cells #[.int .i64 x, .slice none 0 0] 36))) :=
        ⟨below_alloc _ _, rfl, rfl, heap_alloc_new _ _, World.ownsRow_nil _ _ _ _⟩
      obtain ⟨uo, uc, rfl, hum, hucs⟩ := HSY0.out
      have hk1 : (q : Int) < (ps.length : Int) := by omega
      have hl8 := HL8.out
      have HUC : Hid (_ ∨ _) := hucs
      have HHB : Hid (b < w.heap.size ∧ q < ps.length) := ⟨hb, hlt⟩
      have HPW : Hid (w.heap.size + 2 < wr.heap.size) := by
        show _ < _
        rw [← HS0.out]
        rcases Nat.lt_or_ge W0.heap.size wr.heap.size with h' | h'
        · exact h'
        · have := HT.out.box; rw [Array.getElem?_eq_none h'] at this; cases this
      clear hsy hc hcs hbw HCP z0 z1 hucs
      go_upto_region 7 with (fail)
      have HD1 : Hid (wr.cell? ⟨b, o + q * 2 + 1, none⟩ = _) := d1
      clear d0 d1 e1 e2 z2 hk1
      obtain ⟨w5, rfl⟩ : ∃ w5, w5 = wr := ⟨_, rfl⟩
      obtain ⟨p, HP⟩ : ∃ p, Hid (w5.heap.size = p) := ⟨_, (rfl : w5.heap.size = w5.heap.size)⟩
      obtain ⟨B, HBE⟩ : ∃ B, Hid (p + 1 = B) := ⟨_, (rfl : p + 1 = p + 1)⟩
      rw [HP.out] at HI0 HPW ⊢
      rw [HBE.out] at HI0
      generalize w5.alloc (Obj.cells #[.int .i64 x, .slice none 0 0] 36) = wa at HI0 ⊢
      go_loopw [6] (fun i wr => ∃ (m : Nat) (bv : Value), m ≤ l.length ∧ i = .int .i64 ((l.length : Int) - 1 - (m : Int)) ∧ Hid (IR w5 B p x bv m l wr)) (fun i _ => (intOf i + 1).toNat)
      case atStart => exact ⟨0, _, by omega, by first | rfl | go_num | (simp), HI0⟩
      case round =>
        obtain ⟨m, bv, hm2, rfl, HI⟩ := hrel
        clear HI0
        obtain ⟨ba, bc, rfl⟩ := own_row HI.out.row
        by_cases hml : m < l.length
        · obtain ⟨k, HKM⟩ : ∃ k : Nat, Hid ((l.length : Int) - 1 - (m : Int) = (k : Int)) := ⟨l.length - 1 - m, by show _ = _; omega⟩
          rw [HKM.out]
          have hk0 : k < l.length := by have := HKM.out; omega
          obtain ⟨b2, o2, rfl, hb2, hc2⟩ := HUC.out.resolve_left (by intro e; subst e; simp at hml)
          obtain ⟨f0, f1⟩ := hc2 k hk0
          have HSN : Hid (l.reverse.take (m + 1) = l.reverse.take m ++ [(l[k].1, l[k].2)]) := by
            show _ = _
            rw [List.take_succ_eq_append_getElem (by simp; exact hml), List.getElem_reverse]
            congr 2
            have e : l.length - 1 - m = k := by have := HKM.out; omega
            simp only [e]
          generalize l[k].1 = s0 at f0 HSN
          generalize l[k].2 = s1 at f1 HSN
          have HOWN : Hid (wr.ownsRow B 44 2 (.slice ba m bc) m (scs (l.reverse.take m))) := HI.out.row
          have HPBX : Hid (wr.heap[p]? = some (.cells #[.int .i64 x, (.slice ba m bc)] 36)) := HI.out.box
          have HPL : Hid (p < wr.heap.size) := by
            show _ < _
            rcases Nat.lt_or_ge p wr.heap.size with h' | h'
            · exact h'
            · have := HPBX.out; rw [Array.getElem?_eq_none h'] at this; cases this
          have HBW : Hid (B ≤ wr.heap.size) := by show _ ≤ _; rw [← HBE.out]; exact HPL.out
          have HW5 : Hid (Below w5.heap.size w5 wr) := by show Below _ _ _; rw [HP.out]; exact HI.out.keep
          have HBW2 : Hid (Below w.heap.size w wr ∧ Gb w w.heap.size t n (.slice (some ⟨b, o, none⟩) ps.length c) ps wr) := ⟨(HG.out.next HW5.out).below, HG.out.next HW5.out⟩
          have HC : Hid (TC wr p w.heap.size m ps.length q l.length k b o b2 o2 c bc uc ba s0 s1) :=
            ⟨cell_blk HPBX.out 1, HBW2.out.2.c2, (HW5.out.cell (p := ⟨b, o + q * 2 + 1, none⟩) (by have := HPW.out; have := HHB.out.1; have := HP.out; simp; omega)).trans HD1.out,
              (HBW2.out.1.cell (p := ⟨b2, o2 + k * 2, none⟩) hb2).trans f0, (HBW2.out.1.cell (p := ⟨b2, o2 + k * 2 + 1, none⟩) hb2).trans f1⟩
          have HOG : Hid (∀ j, Value.ownBlock (.slice ba m bc) = some j → B ≤ j) := own_ge HI.out.row
          have HKB : Hid (TB wr p w.heap.size b b2 (Value.ownBlock (.slice ba m bc))) := by
            have i1 := HPW.out
            have i2 := HHB.out.1
            have i3 := HPL.out
            have i4 := HBE.out
            exact ⟨⟨i3, fun e => by have := HOG.out _ e.symm; omega⟩, ⟨by omega, fun e => by have := HOG.out _ e.symm; omega⟩, ⟨by omega, fun e => by have := HOG.out _ e.symm; omega⟩, ⟨by omega, fun e => by have := HOG.out _ e.symm; omega⟩, ⟨by omega, fun e => by have := HOG.out _ e.symm; omega⟩⟩
          have HK1 : Hid (q < ps.length ∧ k < l.length ∧ m ≤ 8) := ⟨HHB.out.2, hk0, by omega⟩
          clear hc2 f0 f1 HOG HW5 HBW2 HUC
          go_wp2_with fail
          refine wp_region_free mixed (fun a0 d a W => ∃ (gb : Nat) (gr : Nat) (cr : Nat) (x38 x39 x40 x41 x42 x43 x44 x45 x46 x47 x48 x49 x50 x51 : Value), a = ((((((((((((((a0.put (some 38) x38).put (some 39) x39).put (some 40) x40).put (some 41) x41).put (some 42) x42).put (some 43) x43).put (some 44) x44).put (some 45) x45).put (some 46) x46).put (some 47) x47).put (some 48) x48).put (some 49) x49).put (some 50) x50).put (some 51) x51) ∧ Hid (RTu wr B p w.heap.size m ps.length q l.length k b o b2 o2 c bc uc ba x s0 s1 (scs (l.reverse.take m)) gb gr cr d x38 x39 x40 x41 x42 x43 x44 x45 x46 x47 x48 x49 x50 x51 W)) (by kernel_rfl) ⟨0, 0, 0, u38, u39, u40, u41, u42, u43, u44, u45, u46, u47, u48, u49, u50, u51, by simp only [Act.put, List.setIfInBounds_toArray, List.set_cons_zero, List.set_cons_succ], ?_⟩ ?_ ?_
          · exact ⟨fun h => no_way h, fun h => no_way h, fun h => no_way h, fun h => no_way h, fun h => no_way h, fun h => no_way h, fun h => no_way h, fun h => no_way h, fun h => no_way h, fun h => no_way h, fun h => no_way h, fun h => no_way h, fun h => no_way h, fun h => no_way h, fun _ => trivial, fun _ _ h => no_way h, fun h => no_way h, fun _ => (gb_drew (World.grownBy.refl _ _)), fun _ => HOWN.out, fun h => no_way h, fun h => no_way h, fun h => no_way h⟩
          · simp only [StepAll, and_true]
            refine ⟨?_, ?_, ?_, ?_, ?_, ?_, ?_, ?_, ?_, ?_, ?_, ?_, ?_, ?_, ?_⟩
            · intro d a W hI hd hdep
              obtain ⟨gb, gr, cr, x38, x39, x40, x41, x42, x43, x44, x45, x46, x47, x48, x49, x50, x51, rfl, hF⟩ := hI
              clear hdep hd
              intro K hK
              simp only [Act.put, List.setIfInBounds_toArray, List.set_cons_zero, List.set_cons_succ]
              go_simp
              refine hK.out _ _ ⟨gb, gr, cr, (.pointer (some ⟨p, 1, none⟩)), x39, x40, x41, x42, x43, x44, x45, x46, x47, x48, x49, x50, x51, by simp only [Act.put, List.setIfInBounds_toArray, List.set_cons_zero, List.set_cons_succ], ?_⟩
              exact ⟨fun _ => rfl, fun h => hF.out.f1 (by simpa using h), fun h => hF.out.f2 (by simpa using h), fun h => hF.out.f3 (by simpa using h), fun h => hF.out.f4 (by simpa using h), fun h => hF.out.f5 (by simpa using h), fun h => hF.out.f6 (by simpa using h), fun h => hF.out.f7 (by simpa using h), fun h => hF.out.f8 (by simpa using h), fun h => hF.out.f9 (by simpa using h), fun h => hF.out.f10 (by simpa using h), fun h => hF.out.f11 (by simpa using h), fun h => hF.out.f12 (by simpa using h), fun h => hF.out.f13 (by simpa using h), fun h => hF.out.f14 (by simpa using h), fun i hi h => by have := hF.out.o14 i hi (by simpa using h); simp [this], fun h => by have := hF.out.c12 (by simpa using h); simpa using this, fun h => hF.out.kp (by simpa using h), fun h => hF.out.r0 (by simpa using h), fun h h2 => hF.out.b0 (by simpa using h) (by simpa using h2), fun h h2 => hF.out.r1 (by simpa using h) (by simpa using h2), fun h => hF.out.fin (by simpa using h)⟩
            · intro d a W hI hd hdep
              obtain ⟨gb, gr, cr, x38, x39, x40, x41, x42, x43, x44, x45, x46, x47, x48, x49, x50, x51, rfl, hF⟩ := hI
              have hd0 : d 0 = true := dep_of hdep 0 (by kernel_rfl)
              obtain rfl := hF.out.f0 hd0
              have HN14 : Hid (d 14 = false) := no_later (hF.out.o14 1 (by omega)) hd
              have ya : W.cell? ⟨p, 1, none⟩ = some (.slice ba m bc) := (gb_old (hF.out.kp HN14.out) (p := ⟨p, 1, none⟩) HKB.out.k1.1 HKB.out.k1.2).trans HC.out.k1
              clear hdep hd hd0
              intro K hK
              simp only [Act.put, List.setIfInBounds_toArray, List.set_cons_zero, List.set_cons_succ]
              go_simp
              refine hK.out _ _ ⟨gb, gr, cr, (.pointer (some ⟨p, 1, none⟩)), (.slice ba m bc), x40, x41, x42, x43, x44, x45, x46, x47, x48, x49, x50, x51, by simp only [Act.put, List.setIfInBounds_toArray, List.set_cons_zero, List.set_cons_succ], ?_⟩
              exact ⟨fun h => hF.out.f0 (by simpa using h), fun _ => rfl, fun h => hF.out.f2 (by simpa using h), fun h => hF.out.f3 (by simpa using h), fun h => hF.out.f4 (by simpa using h), fun h => hF.out.f5 (by simpa using h), fun h => hF.out.f6 (by simpa using h), fun h => hF.out.f7 (by simpa using h), fun h => hF.out.f8 (by simpa using h), fun h => hF.out.f9 (by simpa using h), fun h => hF.out.f10 (by simpa using h), fun h => hF.out.f11 (by simpa using h), fun h => hF.out.f12 (by simpa using h), fun h => hF.out.f13 (by simpa using h), fun h => hF.out.f14 (by simpa using h), fun i hi h => by have := hF.out.o14 i hi (by simpa using h); simp [this], fun h => by have := hF.out.c12 (by simpa using h); simpa using this, fun h => hF.out.kp (by simpa using h), fun h => hF.out.r0 (by simpa using h), fun h h2 => hF.out.b0 (by simpa using h) (by simpa using h2), fun h h2 => hF.out.r1 (by simpa using h) (by simpa using h2), fun h => hF.out.fin (by simpa using h)⟩
            · intro d a W hI hd hdep
              obtain ⟨gb, gr, cr, x38, x39, x40, x41, x42, x43, x44, x45, x46, x47, x48, x49, x50, x51, rfl, hF⟩ := hI
              clear hdep hd
              intro K hK
              simp only [Act.put, List.setIfInBounds_toArray, List.set_cons_zero, List.set_cons_succ]
              go_simp
              refine hK.out _ _ ⟨gb, gr, cr, x38, x39, (.pointer (some ⟨w.heap.size, 2, none⟩)), x41, x42, x43, x44, x45, x46, x47, x48, x49, x50, x51, by simp only [Act.put, List.setIfInBounds_toArray, List.set_cons_zero, List.set_cons_succ], ?_⟩
              exact ⟨fun h => hF.out.f0 (by simpa using h), fun h => hF.out.f1 (by simpa using h), fun _ => rfl, fun h => hF.out.f3 (by simpa using h), fun h => hF.out.f4 (by simpa using h), fun h => hF.out.f5 (by simpa using h), fun h => hF.out.f6 (by simpa using h), fun h => hF.out.f7 (by simpa using h), fun h => hF.out.f8 (by simpa using h), fun h => hF.out.f9 (by simpa using h), fun h => hF.out.f10 (by simpa using h), fun h => hF.out.f11 (by simpa using h), fun h => hF.out.f12 (by simpa using h), fun h => hF.out.f13 (by simpa using h), fun h => hF.out.f14 (by simpa using h), fun i hi h => by have := hF.out.o14 i hi (by simpa using h); simp [this], fun h => by have := hF.out.c12 (by simpa using h); simpa using this, fun h => hF.out.kp (by simpa using h), fun h => hF.out.r0 (by simpa using h), fun h h2 => hF.out.b0 (by simpa using h) (by simpa using h2), fun h h2 => hF.out.r1 (by simpa using h) (by simpa using h2), fun h => hF.out.fin (by simpa using h)⟩
            · intro d a W hI hd hdep
              obtain ⟨gb, gr, cr, x38, x39, x40, x41, x42, x43, x44, x45, x46, x47, x48, x49, x50, x51, rfl, hF⟩ := hI
              have hd2 : d 2 = true := dep_of hdep 2 (by kernel_rfl)
              obtain rfl := hF.out.f2 hd2
              have HN14 : Hid (d 14 = false) := no_later (hF.out.o14 3 (by omega)) hd
              have ya : W.cell? ⟨w.heap.size, 2, none⟩ = some (.slice (some ⟨b, o, none⟩) ps.length c) := (gb_old (hF.out.kp HN14.out) (p := ⟨w.heap.size, 2, none⟩) HKB.out.k2.1 HKB.out.k2.2).trans HC.out.k2
              clear hdep hd hd2
              intro K hK
              simp only [Act.put, List.setIfInBounds_toArray, List.set_cons_zero, List.set_cons_succ]
              go_simp
              refine hK.out _ _ ⟨gb, gr, cr, x38, x39, (.pointer (some ⟨w.heap.size, 2, none⟩)), (.slice (some ⟨b, o, none⟩) ps.length c), x42, x43, x44, x45, x46, x47, x48, x49, x50, x51, by simp only [Act.put, List.setIfInBounds_toArray, List.set_cons_zero, List.set_cons_succ], ?_⟩
              exact ⟨fun h => hF.out.f0 (by simpa using h), fun h => hF.out.f1 (by simpa using h), fun h => hF.out.f2 (by simpa using h), fun _ => rfl, fun h => hF.out.f4 (by simpa using h), fun h => hF.out.f5 (by simpa using h), fun h => hF.out.f6 (by simpa using h), fun h => hF.out.f7 (by simpa using h), fun h => hF.out.f8 (by simpa using h), fun h => hF.out.f9 (by simpa using h), fun h => hF.out.f10 (by simpa using h), fun h => hF.out.f11 (by simpa using h), fun h => hF.out.f12 (by simpa using h), fun h => hF.out.f13 (by simpa using h), fun h => hF.out.f14 (by simpa using h), fun i hi h => by have := hF.out.o14 i hi (by simpa using h); simp [this], fun h => by have := hF.out.c12 (by simpa using h); simpa using this, fun h => hF.out.kp (by simpa using h), fun h => hF.out.r0 (by simpa using h), fun h h2 => hF.out.b0 (by simpa using h) (by simpa using h2), fun h h2 => hF.out.r1 (by simpa using h) (by simpa using h2), fun h => hF.out.fin (by simpa using h)⟩
            · intro d a W hI hd hdep
              obtain ⟨gb, gr, cr, x38, x39, x40, x41, x42, x43, x44, x45, x46, x47, x48, x49, x50, x51, rfl, hF⟩ := hI
              clear hdep hd
              intro K hK
              simp only [Act.put, List.setIfInBounds_toArray, List.set_cons_zero, List.set_cons_succ]
              go_simp
              refine hK.out _ _ ⟨gb, gr, cr, x38, x39, x40, x41, (.int .i64 (q : Int)), x43, x44, x45, x46, x47, x48, x49, x50, x51, by simp only [Act.put, List.setIfInBounds_toArray, List.set_cons_zero, List.set_cons_succ], ?_⟩
              exact ⟨fun h => hF.out.f0 (by simpa using h), fun h => hF.out.f1 (by simpa using h), fun h => hF.out.f2 (by simpa using h), fun h => hF.out.f3 (by simpa using h), fun _ => rfl, fun h => hF.out.f5 (by simpa using h), fun h => hF.out.f6 (by simpa using h), fun h => hF.out.f7 (by simpa using h), fun h => hF.out.f8 (by simpa using h), fun h => hF.out.f9 (by simpa using h), fun h => hF.out.f10 (by simpa using h), fun h => hF.out.f11 (by simpa using h), fun h => hF.out.f12 (by simpa using h), fun h => hF.out.f13 (by simpa using h), fun h => hF.out.f14 (by simpa using h), fun i hi h => by have := hF.out.o14 i hi (by simpa using h); simp [this], fun h => by have := hF.out.c12 (by simpa using h); simpa using this, fun h => hF.out.kp (by simpa using h), fun h => hF.out.r0 (by simpa using h), fun h h2 => hF.out.b0 (by simpa using h) (by simpa using h2), fun h h2 => hF.out.r1 (by simpa using h) (by simpa using h2), fun h => hF.out.fin (by simpa using h)⟩
            · intro d a W hI hd hdep
              obtain ⟨gb, gr, cr, x38, x39, x40, x41, x42, x43, x44, x45, x46, x47, x48, x49, x50, x51, rfl, hF⟩ := hI
              have hd3 : d 3 = true := dep_of hdep 3 (by kernel_rfl)
              have hd4 : d 4 = true := dep_of hdep 4 (by kernel_rfl)
              obtain rfl := hF.out.f3 hd3
              obtain rfl := hF.out.f4 hd4
              have hk1 := HK1.out.1
              have hk2 : (q : Int) < (ps.length : Int) := by omega
              clear hdep hd hd3 hd4
              intro K hK
              simp only [Act.put, List.setIfInBounds_toArray, List.set_cons_zero, List.set_cons_succ]
              go_simp
              refine hK.out _ _ ⟨gb, gr, cr, x38, x39, x40, (.slice (some ⟨b, o, none⟩) ps.length c), (.int .i64 (q : Int)), (.pointer (some ⟨b, o + q * 2, none⟩)), x44, x45, x46, x47, x48, x49, x50, x51, by simp only [Act.put, List.setIfInBounds_toArray, List.set_cons_zero, List.set_cons_succ], ?_⟩
              exact ⟨fun h => hF.out.f0 (by simpa using h), fun h => hF.out.f1 (by simpa using h), fun h => hF.out.f2 (by simpa using h), fun h => hF.out.f3 (by simpa using h), fun h => hF.out.f4 (by simpa using h), fun _ => rfl, fun h => hF.out.f6 (by simpa using h), fun h => hF.out.f7 (by simpa using h), fun h => hF.out.f8 (by simpa using h), fun h => hF.out.f9 (by simpa using h), fun h => hF.out.f10 (by simpa using h), fun h => hF.out.f11 (by simpa using h), fun h => hF.out.f12 (by simpa using h), fun h => hF.out.f13 (by simpa using h), fun h => hF.out.f14 (by simpa using h), fun i hi h => by have := hF.out.o14 i hi (by simpa using h); simp [this], fun h => by have := hF.out.c12 (by simpa using h); simpa using this, fun h => hF.out.kp (by simpa using h), fun h => hF.out.r0 (by simpa using h), fun h h2 => hF.out.b0 (by simpa using h) (by simpa using h2), fun h h2 => hF.out.r1 (by simpa using h) (by simpa using h2), fun h => hF.out.fin (by simpa using h)⟩
            · intro d a W hI hd hdep
              obtain ⟨gb, gr, cr, x38, x39, x40, x41, x42, x43, x44, x45, x46, x47, x48, x49, x50, x51, rfl, hF⟩ := hI
              have hd5 : d 5 = true := dep_of hdep 5 (by kernel_rfl)
              obtain rfl := hF.out.f5 hd5
              clear hdep hd hd5
              intro K hK
              simp only [Act.put, List.setIfInBounds_toArray, List.set_cons_zero, List.set_cons_succ]
              go_simp
              refine hK.out _ _ ⟨gb, gr, cr, x38, x39, x40, x41, x42, (.pointer (some ⟨b, o + q * 2, none⟩)), (.pointer (some ⟨b, o + q * 2 + 1, none⟩)), x45, x46, x47, x48, x49, x50, x51, by simp only [Act.put, List.setIfInBounds_toArray, List.set_cons_zero, List.set_cons_succ], ?_⟩
              exact ⟨fun h => hF.out.f0 (by simpa using h), fun h => hF.out.f1 (by simpa using h), fun h => hF.out.f2 (by simpa using h), fun h => hF.out.f3 (by simpa using h), fun h => hF.out.f4 (by simpa using h), fun h => hF.out.f5 (by simpa using h), fun _ => rfl, fun h => hF.out.f7 (by simpa using h), fun h => hF.out.f8 (by simpa using h), fun h => hF.out.f9 (by simpa using h), fun h => hF.out.f10 (by simpa using h), fun h => hF.out.f11 (by simpa using h), fun h => hF.out.f12 (by simpa using h), fun h => hF.out.f13 (by simpa using h), fun h => hF.out.f14 (by simpa using h), fun i hi h => by have := hF.out.o14 i hi (by simpa using h); simp [this], fun h => by have := hF.out.c12 (by simpa using h); simpa using this, fun h => hF.out.kp (by simpa using h), fun h => hF.out.r0 (by simpa using h), fun h h2 => hF.out.b0 (by simpa using h) (by simpa using h2), fun h h2 => hF.out.r1 (by simpa using h) (by simpa using h2), fun h => hF.out.fin (by simpa using h)⟩
            · intro d a W hI hd hdep
              obtain ⟨gb, gr, cr, x38, x39, x40, x41, x42, x43, x44, x45, x46, x47, x48, x49, x50, x51, rfl, hF⟩ := hI
              have hd6 : d 6 = true := dep_of hdep 6 (by kernel_rfl)
              obtain rfl := hF.out.f6 hd6
              have HN14 : Hid (d 14 = false) := no_later (hF.out.o14 7 (by omega)) hd
              have ya : W.cell? ⟨b, o + q * 2 + 1, none⟩ = some (.slice (some ⟨b2, o2, none⟩) l.length uc) := (gb_old (hF.out.kp HN14.out) (p := ⟨b, o + q * 2 + 1, none⟩) HKB.out.k3.1 HKB.out.k3.2).trans HC.out.k3
              clear hdep hd hd6
              intro K hK
              simp only [Act.put, List.setIfInBounds_toArray, List.set_cons_zero, List.set_cons_succ]
              go_simp
              refine hK.out _ _ ⟨gb, gr, cr, x38, x39, x40, x41, x42, x43, (.pointer (some ⟨b, o + q * 2 + 1, none⟩)), (.slice (some ⟨b2, o2, none⟩) l.length uc), x46, x47, x48, x49, x50, x51, by simp only [Act.put, List.setIfInBounds_toArray, List.set_cons_zero, List.set_cons_succ], ?_⟩
              exact ⟨fun h => hF.out.f0 (by simpa using h), fun h => hF.out.f1 (by simpa using h), fun h => hF.out.f2 (by simpa using h), fun h => hF.out.f3 (by simpa using h), fun h => hF.out.f4 (by simpa using h), fun h => hF.out.f5 (by simpa using h), fun h => hF.out.f6 (by simpa using h), fun _ => rfl, fun h => hF.out.f8 (by simpa using h), fun h => hF.out.f9 (by simpa using h), fun h => hF.out.f10 (by simpa using h), fun h => hF.out.f11 (by simpa using h), fun h => hF.out.f12 (by simpa using h), fun h => hF.out.f13 (by simpa using h), fun h => hF.out.f14 (by simpa using h), fun i hi h => by have := hF.out.o14 i hi (by simpa using h); simp [this], fun h => by have := hF.out.c12 (by simpa using h); simpa using this, fun h => hF.out.kp (by simpa using h), fun h => hF.out.r0 (by simpa using h), fun h h2 => hF.out.b0 (by simpa using h) (by simpa using h2), fun h h2 => hF.out.r1 (by simpa using h) (by simpa using h2), fun h => hF.out.fin (by simpa using h)⟩
            · intro d a W hI hd hdep
              obtain ⟨gb, gr, cr, x38, x39, x40, x41, x42, x43, x44, x45, x46, x47, x48, x49, x50, x51, rfl, hF⟩ := hI
              clear hdep hd
              intro K hK
              simp only [Act.put, List.setIfInBounds_toArray, List.set_cons_zero, List.set_cons_succ]
              go_simp
              refine hK.out _ _ ⟨gb, gr, cr, x38, x39, x40, x41, x42, x43, x44, x45, (.int .i64 (k : Int)), x47, x48, x49, x50, x51, by simp only [Act.put, List.setIfInBounds_toArray, List.set_cons_zero, List.set_cons_succ], ?_⟩
              exact ⟨fun h => hF.out.f0 (by simpa using h), fun h => hF.out.f1 (by simpa using h), fun h => hF.out.f2 (by simpa using h), fun h => hF.out.f3 (by simpa using h), fun h => hF.out.f4 (by simpa using h), fun h => hF.out.f5 (by simpa using h), fun h => hF.out.f6 (by simpa using h), fun h => hF.out.f7 (by simpa using h), fun _ => rfl, fun h => hF.out.f9 (by simpa using h), fun h => hF.out.f10 (by simpa using h), fun h => hF.out.f11 (by simpa using h), fun h => hF.out.f12 (by simpa using h), fun h => hF.out.f13 (by simpa using h), fun h => hF.out.f14 (by simpa using h), fun i hi h => by have := hF.out.o14 i hi (by simpa using h); simp [this], fun h => by have := hF.out.c12 (by simpa using h); simpa using this, fun h => hF.out.kp (by simpa using h), fun h => hF.out.r0 (by simpa using h), fun h h2 => hF.out.b0 (by simpa using h) (by simpa using h2), fun h h2 => hF.out.r1 (by simpa using h) (by simpa using h2), fun h => hF.out.fin (by simpa using h)⟩
            · intro d a W hI hd hdep
              obtain ⟨gb, gr, cr, x38, x39, x40, x41, x42, x43, x44, x45, x46, x47, x48, x49, x50, x51, rfl, hF⟩ := hI
              have hd7 : d 7 = true := dep_of hdep 7 (by kernel_rfl)
              have hd8 : d 8 = true := dep_of hdep 8 (by kernel_rfl)
              obtain rfl := hF.out.f7 hd7
              obtain rfl := hF.out.f8 hd8
              have hk1 := HK1.out.2.1
              have hk2 : (k : Int) < (l.length : Int) := by omega
              clear hdep hd hd7 hd8
              intro K hK
              simp only [Act.put, List.setIfInBounds_toArray, List.set_cons_zero, List.set_cons_succ]
              go_simp
              refine hK.out _ _ ⟨gb, gr, cr, x38, x39, x40, x41, x42, x43, x44, (.slice (some ⟨b2, o2, none⟩) l.length uc), (.int .i64 (k : Int)), (.pointer (some ⟨b2, o2 + k * 2, none⟩)), x48, x49, x50, x51, by simp only [Act.put, List.setIfInBounds_toArray, List.set_cons_zero, List.set_cons_succ], ?_⟩
              exact ⟨fun h => hF.out.f0 (by simpa using h), fun h => hF.out.f1 (by simpa using h), fun h => hF.out.f2 (by simpa using h), fun h => hF.out.f3 (by simpa using h), fun h => hF.out.f4 (by simpa using h), fun h => hF.out.f5 (by simpa using h), fun h => hF.out.f6 (by simpa using h), fun h => hF.out.f7 (by simpa using h), fun h => hF.out.f8 (by simpa using h), fun _ => rfl, fun h => hF.out.f10 (by simpa using h), fun h => hF.out.f11 (by simpa using h), fun h => hF.out.f12 (by simpa using h), fun h => hF.out.f13 (by simpa using h), fun h => hF.out.f14 (by simpa using h), fun i hi h => by have := hF.out.o14 i hi (by simpa using h); simp [this], fun h => by have := hF.out.c12 (by simpa using h); simpa using this, fun h => hF.out.kp (by simpa using h), fun h => hF.out.r0 (by simpa using h), fun h h2 => hF.out.b0 (by simpa using h) (by simpa using h2), fun h h2 => hF.out.r1 (by simpa using h) (by simpa using h2), fun h => hF.out.fin (by simpa using h)⟩
            · intro d a W hI hd hdep
              obtain ⟨gb, gr, cr, x38, x39, x40, x41, x42, x43, x44, x45, x46, x47, x48, x49, x50, x51, rfl, hF⟩ := hI
              have hd9 : d 9 = true := dep_of hdep 9 (by kernel_rfl)
              obtain rfl := hF.out.f9 hd9
              have HN14 : Hid (d 14 = false) := no_later (hF.out.o14 10 (by omega)) hd
              have ya : W.cell? ⟨b2, o2 + k * 2, none⟩ = some (.int .i64 s0) := (gb_old (hF.out.kp HN14.out) (p := ⟨b2, o2 + k * 2, none⟩) HKB.out.k4.1 HKB.out.k4.2).trans HC.out.k4
              have yb : W.cell? ⟨b2, o2 + k * 2 + 1, none⟩ = some (.int .i64 s1) := (gb_old (hF.out.kp HN14.out) (p := ⟨b2, o2 + k * 2 + 1, none⟩) HKB.out.k5.1 HKB.out.k5.2).trans HC.out.k5
              clear hdep hd hd9
              intro K hK
              simp only [Act.put, List.setIfInBounds_toArray, List.set_cons_zero, List.set_cons_succ]
              go_simp
              refine hK.out _ _ ⟨gb, gr, cr, x38, x39, x40, x41, x42, x43, x44, x45, x46, (.pointer (some ⟨b2, o2 + k * 2, none⟩)), (.agg #[.int .i64 s0, .int .i64 s1]), x49, x50, x51, by simp only [Act.put, List.setIfInBounds_toArray, List.set_cons_zero, List.set_cons_succ], ?_⟩
              exact ⟨fun h => hF.out.f0 (by simpa using h), fun h => hF.out.f1 (by simpa using h), fun h => hF.out.f2 (by simpa using h), fun h => hF.out.f3 (by simpa using h), fun h => hF.out.f4 (by simpa using h), fun h => hF.out.f5 (by simpa using h), fun h => hF.out.f6 (by simpa using h), fun h => hF.out.f7 (by simpa using h), fun h => hF.out.f8 (by simpa using h), fun h => hF.out.f9 (by simpa using h), fun _ => rfl, fun h => hF.out.f11 (by simpa using h), fun h => hF.out.f12 (by simpa using h), fun h => hF.out.f13 (by simpa using h), fun h => hF.out.f14 (by simpa using h), fun i hi h => by have := hF.out.o14 i hi (by simpa using h); simp [this], fun h => by have := hF.out.c12 (by simpa using h); simpa using this, fun h => hF.out.kp (by simpa using h), fun h => hF.out.r0 (by simpa using h), fun h h2 => hF.out.b0 (by simpa using h) (by simpa using h2), fun h h2 => hF.out.r1 (by simpa using h) (by simpa using h2), fun h => hF.out.fin (by simpa using h)⟩
            · intro d a W hI hd hdep
              obtain ⟨gb, gr, cr, x38, x39, x40, x41, x42, x43, x44, x45, x46, x47, x48, x49, x50, x51, rfl, hF⟩ := hI
              have hd10 : d 10 = true := dep_of hdep 10 (by kernel_rfl)
              obtain rfl := hF.out.f10 hd10
              have HN14 : Hid (d 14 = false) := no_later (hF.out.o14 11 (by omega)) hd
              have HN12 : Hid (d 12 = false) := no_later hF.out.c12 hd
              clear hdep hd hd10
              intro K hK
              simp only [Act.put, List.setIfInBounds_toArray, List.set_cons_zero, List.set_cons_succ]
              go_simp
              refine hK.out _ _ ⟨W.heap.size, gr, cr, x38, x39, x40, x41, x42, x43, x44, x45, x46, x47, (.agg #[.int .i64 s0, .int .i64 s1]), (.slice (some ⟨W.heap.size, 0, none⟩) 1 1), x50, x51, by simp only [Act.put, List.setIfInBounds_toArray, List.set_cons_zero, List.set_cons_succ], ?_⟩
              exact ⟨fun h => hF.out.f0 (by simpa using h), fun h => hF.out.f1 (by simpa using h), fun h => hF.out.f2 (by simpa using h), fun h => hF.out.f3 (by simpa using h), fun h => hF.out.f4 (by simpa using h), fun h => hF.out.f5 (by simpa using h), fun h => hF.out.f6 (by simpa using h), fun h => hF.out.f7 (by simpa using h), fun h => hF.out.f8 (by simpa using h), fun h => hF.out.f9 (by simpa using h), fun h => hF.out.f10 (by simpa using h), fun _ => rfl, fun h => by have := HN12.out; simp [this] at h, fun h => hF.out.f13 (by simpa using h), fun h => hF.out.f14 (by simpa using h), fun i hi h => by have := hF.out.o14 i hi (by simpa using h); simp [this], fun _ => by simp, fun _ => gb_alloc (hF.out.kp HN14.out) _, fun _ => (hF.out.r0 HN12.out).alloc _, fun _ _ => heap_alloc_new _ _, fun h => by have := HN12.out; simp [this] at h, fun h => by have := HN14.out; simp [this] at h⟩
            · intro d a W hI hd hdep
              obtain ⟨gb, gr, cr, x38, x39, x40, x41, x42, x43, x44, x45, x46, x47, x48, x49, x50, x51, rfl, hF⟩ := hI
              have hd1 : d 1 = true := dep_of hdep 1 (by kernel_rfl)
              have hd11 : d 11 = true := dep_of hdep 11 (by kernel_rfl)
              obtain rfl := hF.out.f1 hd1
              obtain rfl := hF.out.f11 hd11
              have HN14 : Hid (d 14 = false) := no_later (hF.out.o14 12 (by omega)) hd
              have HD11 : Hid (d 11 = true) := hd11
              have hm := run_append_lies (P := Try.prog) W 34 34 B 44 i0 _ 2 16 Try.underlying34 hi0 hz0 hz1 hz2 rfl (by omega) (.slice ba m bc) m (scs (l.reverse.take m)) (hF.out.r0 hd) ⟨gb, 0, none⟩ 1 1 [.int .i64 s0, .int .i64 s1] rfl (World.news_of_block (t := 44) (fr := (0, 0)) (hF.out.b0 hd11 hd)) (by simp [Value.oneCell']) (by omega) (by unfold maxLen; have := HK1.out; omega) (by have := HK1.out; omega) (Nat.le_trans HBW.out (hF.out.kp HN14.out).size) W.heap.size rfl
              have hmm := hm.choose_spec.choose_spec.choose_spec
              generalize hm.choose_spec.choose_spec.choose = W1 at hmm
              generalize hm.choose_spec.choose = cr1 at hmm
              generalize hm.choose = gr1 at hmm
              have hrun := hmm.1
              have HM : Hid (W1.ownsRow B 44 2 (.slice (some ⟨gr1, 0, none⟩) (m + 1) cr1) (m + 1) ((scs (l.reverse.take m)) ++ [.int .i64 s0, .int .i64 s1]) ∧ W.grownBy W1 (Value.ownBlock (.slice ba m bc))) := ⟨hmm.2.1, hmm.2.2.1⟩
              clear hmm hm
              clear hdep hd hd1 hd11
              intro K hK
              refine step_call_append (sv := (.slice ba m bc)) (xv := (.slice (some ⟨gb, 0, none⟩) 1 1)) (v := .slice (some ⟨gr1, 0, none⟩) (m + 1) cr1) (W1 := W1) (by rfl) _ _ 34 (by rfl) (by simp only [Act.put, List.setIfInBounds_toArray, List.set_cons_zero, List.set_cons_succ]; rfl) (by simp only [Act.put, List.setIfInBounds_toArray, List.set_cons_zero, List.set_cons_succ]; rfl) (by exact hrun) ?_
              simp only [Act.put, List.setIfInBounds_toArray, List.set_cons_zero, List.set_cons_succ]
              refine hK.out _ _ ⟨gb, gr1, cr1, x38, (.slice ba m bc), x40, x41, x42, x43, x44, x45, x46, x47, x48, (.slice (some ⟨gb, 0, none⟩) 1 1), (.slice (some ⟨gr1, 0, none⟩) (m + 1) cr1), x51, by simp only [Act.put, List.setIfInBounds_toArray, List.set_cons_zero, List.set_cons_succ], ?_⟩
              exact ⟨fun h => hF.out.f0 (by simpa using h), fun h => hF.out.f1 (by simpa using h), fun h => hF.out.f2 (by simpa using h), fun h => hF.out.f3 (by simpa using h), fun h => hF.out.f4 (by simpa using h), fun h => hF.out.f5 (by simpa using h), fun h => hF.out.f6 (by simpa using h), fun h => hF.out.f7 (by simpa using h), fun h => hF.out.f8 (by simpa using h), fun h => hF.out.f9 (by simpa using h), fun h => hF.out.f10 (by simpa using h), fun h => hF.out.f11 (by simpa using h), fun _ => rfl, fun h => hF.out.f13 (by simpa using h), fun h => hF.out.f14 (by simpa using h), fun i hi h => by have := hF.out.o14 i hi (by simpa using h); simp [this], fun _ => by simpa using HD11.out, fun _ => gb_then (hF.out.kp HN14.out) HM.out.2, fun h => by simp at h, fun _ h => by simp at h, fun _ _ => HM.out.1, fun h => by have := HN14.out; simp [this] at h⟩
            · intro d a W hI hd hdep
              obtain ⟨gb, gr, cr, x38, x39, x40, x41, x42, x43, x44, x45, x46, x47, x48, x49, x50, x51, rfl, hF⟩ := hI
              clear hdep hd
              intro K hK
              simp only [Act.put, List.setIfInBounds_toArray, List.set_cons_zero, List.set_cons_succ]
              go_simp
              refine hK.out _ _ ⟨gb, gr, cr, x38, x39, x40, x41, x42, x43, x44, x45, x46, x47, x48, x49, x50, (.pointer (some ⟨p, 1, none⟩)), by simp only [Act.put, List.setIfInBounds_toArray, List.set_cons_zero, List.set_cons_succ], ?_⟩
              exact ⟨fun h => hF.out.f0 (by simpa using h), fun h => hF.out.f1 (by simpa using h), fun h => hF.out.f2 (by simpa using h), fun h => hF.out.f3 (by simpa using h), fun h => hF.out.f4 (by simpa using h), fun h => hF.out.f5 (by simpa using h), fun h => hF.out.f6 (by simpa using h), fun h => hF.out.f7 (by simpa using h), fun h => hF.out.f8 (by simpa using h), fun h => hF.out.f9 (by simpa using h), fun h => hF.out.f10 (by simpa using h), fun h => hF.out.f11 (by simpa using h), fun h => hF.out.f12 (by simpa using h), fun _ => rfl, fun h => hF.out.f14 (by simpa using h), fun i hi h => by have := hF.out.o14 i hi (by simpa using h); simp [this], fun h => by have := hF.out.c12 (by simpa using h); simpa using this, fun h => hF.out.kp (by simpa using h), fun h => hF.out.r0 (by simpa using h), fun h h2 => hF.out.b0 (by simpa using h) (by simpa using h2), fun h h2 => hF.out.r1 (by simpa using h) (by simpa using h2), fun h => hF.out.fin (by simpa using h)⟩
            · intro d a W hI hd hdep
              obtain ⟨gb, gr, cr, x38, x39, x40, x41, x42, x43, x44, x45, x46, x47, x48, x49, x50, x51, rfl, hF⟩ := hI
              have hd0 : d 0 = true := dep_of hdep 0 (by kernel_rfl)
              have hd1 : d 1 = true := dep_of hdep 1 (by kernel_rfl)
              have hd2 : d 2 = true := dep_of hdep 2 (by kernel_rfl)
              have hd3 : d 3 = true := dep_of hdep 3 (by kernel_rfl)
              have hd4 : d 4 = true := dep_of hdep 4 (by kernel_rfl)
              have hd5 : d 5 = true := dep_of hdep 5 (by kernel_rfl)
              have hd6 : d 6 = true := dep_of hdep 6 (by kernel_rfl)
              have hd7 : d 7 = true := dep_of hdep 7 (by kernel_rfl)
              have hd8 : d 8 = true := dep_of hdep 8 (by kernel_rfl)
              have hd9 : d 9 = true := dep_of hdep 9 (by kernel_rfl)
              have hd10 : d 10 = true := dep_of hdep 10 (by kernel_rfl)
              have hd11 : d 11 = true := dep_of hdep 11 (by kernel_rfl)
              have hd12 : d 12 = true := dep_of hdep 12 (by kernel_rfl)
              have hd13 : d 13 = true := dep_of hdep 13 (by kernel_rfl)
              obtain rfl := hF.out.f0 hd0
              obtain rfl := hF.out.f1 hd1
              obtain rfl := hF.out.f2 hd2
              obtain rfl := hF.out.f3 hd3
              obtain rfl := hF.out.f4 hd4
              obtain rfl := hF.out.f5 hd5
              obtain rfl := hF.out.f6 hd6
              obtain rfl := hF.out.f7 hd7
              obtain rfl := hF.out.f8 hd8
              obtain rfl := hF.out.f9 hd9
              obtain rfl := hF.out.f10 hd10
              obtain rfl := hF.out.f11 hd11
              obtain rfl := hF.out.f12 hd12
              obtain rfl := hF.out.f13 hd13
              have HD : Hid (∀ i, i < 14 → d i = true) := fun i hi => by
                have : i = 0 ∨ i = 1 ∨ i = 2 ∨ i = 3 ∨ i = 4 ∨ i = 5 ∨ i = 6 ∨ i = 7 ∨ i = 8 ∨ i = 9 ∨ i = 10 ∨ i = 11 ∨ i = 12 ∨ i = 13 := by omega
                rcases this with rfl | rfl | rfl | rfl | rfl | rfl | rfl | rfl | rfl | rfl | rfl | rfl | rfl | rfl <;> assumption
              have HKP : Hid (wr.grownBy W (Value.ownBlock (.slice ba m bc))) := hF.out.kp hd
              have HR1 : Hid (W.ownsRow B 44 2 (.slice (some ⟨gr, 0, none⟩) (m + 1) cr) (m + 1) ((scs (l.reverse.take m)) ++ [.int .i64 s0, .int .i64 s1])) := hF.out.r1 hd12 hd
              have hblk := (HKP.out.block p HKB.out.k1.1 HKB.out.k1.2).trans HPBX.out
              have ya := cell_blk hblk 1
              have yb := frozen_blk hblk 1
              clear hblk
              simp only [List.getElem?_toArray, List.getElem?_cons_zero, List.getElem?_cons_succ] at ya
              clear hdep hd hd0 hd1 hd2 hd3 hd4 hd5 hd6 hd7 hd8 hd9 hd10 hd11 hd12 hd13
              intro K hK
              simp only [Act.put, List.setIfInBounds_toArray, List.set_cons_zero, List.set_cons_succ]
              go_simp
              refine hK.out _ _ ⟨gb, gr, cr, (.pointer (some ⟨p, 1, none⟩)), (.slice ba m bc), (.pointer (some ⟨w.heap.size, 2, none⟩)), (.slice (some ⟨b, o, none⟩) ps.length c), (.int .i64 (q : Int)), (.pointer (some ⟨b, o + q * 2, none⟩)), (.pointer (some ⟨b, o + q * 2 + 1, none⟩)), (.slice (some ⟨b2, o2, none⟩) l.length uc), (.int .i64 (k : Int)), (.pointer (some ⟨b2, o2 + k * 2, none⟩)), (.agg #[.int .i64 s0, .int .i64 s1]), (.slice (some ⟨gb, 0, none⟩) 1 1), (.slice (some ⟨gr, 0, none⟩) (m + 1) cr), (.pointer (some ⟨p, 1, none⟩)), by simp only [Act.put, List.setIfInBounds_toArray, List.set_cons_zero, List.set_cons_succ], ?_⟩
              exact ⟨fun h => hF.out.f0 (by simpa using h), fun h => hF.out.f1 (by simpa using h), fun h => hF.out.f2 (by simpa using h), fun h => hF.out.f3 (by simpa using h), fun h => hF.out.f4 (by simpa using h), fun h => hF.out.f5 (by simpa using h), fun h => hF.out.f6 (by simpa using h), fun h => hF.out.f7 (by simpa using h), fun h => hF.out.f8 (by simpa using h), fun h => hF.out.f9 (by simpa using h), fun h => hF.out.f10 (by simpa using h), fun h => hF.out.f11 (by simpa using h), fun h => hF.out.f12 (by simpa using h), fun h => hF.out.f13 (by simpa using h), fun _ => trivial, fun i hi _ => by have := HD.out i hi; simp [this], fun h => by have := hF.out.c12 (by simpa using h); simpa using this, fun h => by simp at h, fun h => by have := HD.out 12 (by omega); simp [this] at h, fun _ h => by have := HD.out 12 (by omega); simp [this] at h, fun _ h => by simp at h, fun _ => ⟨W, HKP.out, HR1.out, rfl⟩⟩
          · intro d a W hI hall
            obtain ⟨gb, gr, cr, x38, x39, x40, x41, x42, x43, x44, x45, x46, x47, x48, x49, x50, x51, rfl, hF⟩ := hI
            simp only [List.length_cons, List.length_nil] at hall
            obtain rfl := hF.out.f0 (hall 0 (by omega))
            obtain rfl := hF.out.f1 (hall 1 (by omega))
            obtain rfl := hF.out.f2 (hall 2 (by omega))
            obtain rfl := hF.out.f3 (hall 3 (by omega))
            obtain rfl := hF.out.f4 (hall 4 (by omega))
            obtain rfl := hF.out.f5 (hall 5 (by omega))
            obtain rfl := hF.out.f6 (hall 6 (by omega))
            obtain rfl := hF.out.f7 (hall 7 (by omega))
            obtain rfl := hF.out.f8 (hall 8 (by omega))
            obtain rfl := hF.out.f9 (hall 9 (by omega))
            obtain rfl := hF.out.f10 (hall 10 (by omega))
            obtain rfl := hF.out.f11 (hall 11 (by omega))
            obtain rfl := hF.out.f12 (hall 12 (by omega))
            obtain rfl := hF.out.f13 (hall 13 (by omega))
            obtain ⟨V, v1, v2, rfl⟩ := hF.out.fin (hall 14 (by omega))
            have HV : Hid (wr.grownBy V (Value.ownBlock (.slice ba m bc)) ∧ V.ownsRow B 44 2 (.slice (some ⟨gr, 0, none⟩) (m + 1) cr) (m + 1) (scs (l.reverse.take m) ++ [.int .i64 s0, .int .i64 s1])) := ⟨v1, v2⟩
            clear hF hall v1 v2
            simp only [Act.put, List.setIfInBounds_toArray, List.set_cons_zero, List.set_cons_succ]
            obtain ⟨WN, HWN⟩ : ∃ WN, Hid (V.setCell ⟨p, 1, none⟩ (.slice (some ⟨gr, 0, none⟩) (m + 1) cr) = WN) := ⟨_, (rfl : _ = _)⟩
            rw [HWN.out]
            have HIN : Hid (IR w5 B p x (.slice (some ⟨gr, 0, none⟩) (m + 1) cr) (m + 1) l WN) := by
              rw [← HWN.out]
              exact HI.out.step HV.out.1 HV.out.2 HSN.out
            clear HI HV HWN HC HKB HPBX
            go_wp2_with fail
            go_roundw
            case rel => exact ⟨m + 1, _, by omega, by rw [show ((l.length : Int) - 1 - ((m + 1 : Nat) : Int)) = (k : Int) - 1 by have := HKM.out; omega], HIN⟩
            case measure => simp [intOf]
        · have hme : m = l.length := by omega
          subst hme
          rw [show (l.length : Int) - 1 - (l.length : Int) = -1 by omega]
          have HW5 : Hid (Below w5.heap.size w5 wr) := by show Below _ _ _; rw [HP.out]; exact HI.out.keep
          have HTW : Hid (TR W0 t n ps q v wr) := HT.out.next HW5.out
          have HPBX : Hid (wr.heap[p]? = some (.cells #[.int .i64 x, .slice ba l.length bc] 36)) := HI.out.box
          have HSB : Hid (Syms wr (.slice ba l.length bc) l.reverse) := by
            have := HI.out.row
            rw [List.take_of_length_le (by simp)] at this
            exact syms_of_own (l := l.reverse) (by simpa using this) (by simp; omega)
          have HOG : Hid (∀ j, Value.ownBlock (.slice ba l.length bc) = some j → B ≤ j) := own_ge HI.out.row
          obtain ⟨U, hrow, hU⟩ := HTW.out.row
          have HST : Hid (∀ (g cap : Nat) (w6 : World), w6.ownsRow (W0.heap.size + 1) 36 2 (.slice (some ⟨g, 0, none⟩) (q + 1) cap) (q + 1) (pcs ps U q ++ [.int .i64 x, .slice ba l.length bc]) → (wr.alloc (Obj.cells #[.int .i64 x, .slice ba l.length bc] 36)).grownBy w6 v.ownBlock → (v.ownBlock = some g ∨ g = (wr.alloc (Obj.cells #[.int .i64 x, .slice ba l.length bc] 36)).heap.size) →
              TR W0 t n ps (q + 1) (.slice (some ⟨g, 0, none⟩) (q + 1) cap) (w6.setCell ⟨w.heap.size + 1 + 1, 2, none⟩ (.slice (some ⟨g, 0, none⟩) (q + 1) cap))) := fun g cap w6 k1 k2 k3 => by
            have := HTW.out.step hrow hU HHB.out.2 x l HX.out HL.out (.slice ba l.length bc) HSB.out (fun k hk => ⟨?_, (HI.out.row.lt k hk).2, fun e => ?_⟩) _ g cap w6 k1 k2 k3
            · rw [HS0.out] at this; exact this
            · have i1 := HOG.out k hk; have i2 := HPW.out; have i3 := HBE.out; have i4 := HS0.out; omega
            · have i1 := HOG.out k hk
              have i3 := HBE.out
              obtain ⟨U2, hrow2, -⟩ := HT.out.row
              have i5 := (hrow2.lt k e).2
              have i6 := HP.out
              omega
          have HROW : Hid (wr.ownsRow (W0.heap.size + 1) 36 2 v q (pcs ps U q)) := hrow
          have hbx := HTW.out.box
          rw [HS0.out] at hbx
          have HBX : Hid (wr.heap[w.heap.size + 1 + 1]? = some (.cells #[.int .i64 t, .int .i64 n, v] 24)) := hbx
          have HSZ : Hid (W0.heap.size + 1 ≤ wr.heap.size) := by
            show _ ≤ _
            rw [HS0.out]
            rcases Nat.lt_or_ge (w.heap.size + 2) wr.heap.size with h' | h'
            · exact h'
            · have := HBX.out; rw [Array.getElem?_eq_none h'] at this; cases this
          obtain ⟨va, vc, rfl⟩ := own_row hrow
          have a0 := cell_blk hbx 2
          have a1 := cell_blk HPBX.out 0
          have a2 := cell_blk HPBX.out 1
          simp only [List.getElem?_toArray, List.getElem?_cons_zero, List.getElem?_cons_succ] at a0 a1 a2
          have hsz := HSZ.out
          have HNB : Hid (∀ k, k ≤ W0.heap.size → some k ≠ Value.ownBlock (.slice va q vc)) := fun k hk e => by have := own_ge hrow k e.symm; omega
          have HHQ : Hid (q < ps.length) := HHB.out.2
          clear hU hbx HTW HT HOG HPBX HSB HUC HI HW5
          go_wp2_with (at_builtin; refine wpList_append_lies _ rfl _ _ 22 rfl (W0.heap.size + 1) 36 i1 (.agg #[.int .i64 0, .slice none 0 0]) 2 32 Try.underlying22 hi1 hy0 hy1 hy2 rfl (by decide) _ _ _ rfl (hrow.alloc _) ⟨wr.heap.size, 0, none⟩ 1 1 [.int .i64 x, .slice ba l.length bc] rfl rfl (World.news_of_block (t := 36) (fr := (0, 0)) (heap_alloc_new wr _)) (by simp [Value.oneCell']) (by omega) (by unfold maxLen; omega) (by omega) (by simp; omega) _ rfl ?_)
          intro g cap w6 hown' hgrow hor _
          have HTN : Hid (TR W0 t n ps (q + 1) (.slice (some ⟨g, 0, none⟩) (q + 1) cap) (w6.setCell ⟨w.heap.size + 1 + 1, 2, none⟩ (.slice (some ⟨g, 0, none⟩) (q + 1) cap))) := HST.out g cap w6 hown' hgrow (by simpa using hor)
          have hb6 : w6.heap[w.heap.size + 1 + 1]? = some (.cells #[.int .i64 t, .int .i64 n, .slice va q vc] 24) := by
            rw [hgrow.block (w.heap.size + 1 + 1) (by have := HS0.out; simp; omega) (HNB.out _ (by have := HS0.out; omega)), (below_alloc wr _).block _ (by have := HS0.out; omega)]
            exact HBX.out
          have a3 := cell_blk hb6 2
          have a4 := frozen_blk hb6 2
          simp only [List.getElem?_toArray, List.getElem?_cons_zero, List.getElem?_cons_succ] at a3
          clear hown' hgrow hor hb6 hrow HST HNB HBX HROW a0 a1 a2
          go_wp2_with fail
          go_roundw
          case rel => exact ⟨q + 1, _, by have := HHQ.out; omega, by go_num, HTN⟩
          case measure => simp [intOf]; have := HHQ.out; omega
    · have hqe : q = ps.length := by omega
      subst hqe
      have hbx := HT.out.box
      rw [HS0.out] at hbx
      have hrb : wr.heap[w.heap.size + 1]? = some (Obj.cells #[.int .i64 0, .int .i64 0, .slice none 0 0] 24) := box_next HB0.out HT.out.keep
      obtain ⟨va, vc, rfl⟩ := own_row HT.out.row.choose_spec.1
      have a0 := cell_blk hbx 0
      have a1 := cell_blk hbx 1
      have a2 := cell_blk hbx 2
      have r1 := block_store (i := 0) hrb (.int .i64 t)
      have r2 := block_store (i := 1) r1 (.int .i64 n)
      have r3 := block_store (i := 2) r2 (.slice va ps.length vc)
      simp only [List.setIfInBounds_toArray, List.set_cons_zero, List.set_cons_succ] at r1 r2 r3
      have y0 := cell_blk hrb 0
      have y1 := cell_blk r1 1
      have y2 := cell_blk r2 2
      have v0 := cell_blk r3 0
      have v1 := cell_blk r3 1
      have v2 := cell_blk r3 2
      have f0 := frozen_blk hrb 0
      have f1 := frozen_blk r1 1
      have f2 := frozen_blk r2 2
      simp only [List.getElem?_toArray, List.getElem?_cons_zero, List.getElem?_cons_succ] at a0 a1 a2 y0 y1 y2 v0 v1 v2
      have HFIN : Hid (Pds (((wr.setCell ⟨w.heap.size + 1, 0, none⟩ (.int .i64 t)).setCell ⟨w.heap.size + 1, 1, none⟩ (.int .i64 n)).setCell ⟨w.heap.size + 1, 2, none⟩ (.slice va ps.length vc)) (.slice va ps.length vc) (turn ps) ∧ Below w.heap.size w (((wr.setCell ⟨w.heap.size + 1, 0, none⟩ (.int .i64 t)).setCell ⟨w.heap.size + 1, 1, none⟩ (.int .i64 n)).setCell ⟨w.heap.size + 1, 2, none⟩ (.slice va ps.length vc))) :=
        ⟨TR.pds_three HT.out hpl (by have := HS0.out; omega) _ _ _, ((HG.out.below.setCell (by simp) _).setCell (by simp) _).setCell (by simp) _⟩
      clear HT hbx hrb r1 r2 r3 HG HG0 hcs
      go_wp2_with fail
      exact bodyPost_ret (v := .agg #[.int .i64 t, .int .i64 n, .slice va ps.length vc]) (by simp [results, Try.results10, go_sem, v0, v1, v2]) rfl ⟨_, _, rfl, HFIN.out.1, HFIN.out.2⟩
end Go.Proofs.Ytgoafahglajfmaa
