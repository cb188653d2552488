/-
  More of what pushref.Dfa holds.
-/
import Derived.Test.YtlmlkpdppkgenaaDrDfaA
namespace Go.Proofs.Ytlmlkpdppkgenaa
open Go.RowKit
open Cls Po Dm
open Df (rl rl_length rl_at rl_one size35)

section
variable {w1 W W' : World} {B ob kr gs sc rc gt tc : Nat} {p : P} {S U : List Cl} {ro : Option Addr} {V : Nat → Value}
/-- Nothing of it changes. -/
theorem Rd.kt {t : TypeId} (h : Rd w1 B ob p S U kr gs sc ro rc gt tc V W) (hk : Kt t W W') (h1 : t ≠ 30) (h2 : t ≠ 23) (h3 : t ≠ 3) (h4 : t ≠ 72) (hb : Below B w1 W') : Rd w1 B ob p S U kr gs sc ro rc gt tc V W' := by
  have e : ∀ b, Ty W b 3 → W'.heap[b]? = W.heap[b]? := fun b hb => hk.blk b hb.lt (fun e => h3 (e.one hb))
  exact ⟨hb, hk.row (Ne.symm h1) h.bx, hk.own (Ne.symm h2) h.so, fun i hi => ⟨(h.el i hi).1.keep hk.size (fun b hq => e b ((h.el i hi).2 b hq).1), fun b hq => ⟨((h.el i hi).2 b hq).1.of (e b ((h.el i hi).2 b hq).1), ((h.el i hi).2 b hq).2⟩⟩, hk.own (Ne.symm h4) h.rs, hk.own (Ne.symm h3) h.ta, h.ge.1, Nat.le_trans h.ge.2 hk.size⟩
theorem Rd.rw_ {rb : Nat} (h : Rd w1 B ob p S U kr gs sc (some ⟨rb, 0, none⟩) rc gt tc V W) (hf : Far p kr) (hs : (G p kr).length ≤ 1000) : Df.Rw W (.slice (some ⟨rb, 0, none⟩) kr rc) kr (rowF p (G p kr)) := by
  have hl : kr ≤ 201 := hf.le200
  refine ⟨_, rc, rfl, by omega, fun i j => ?_, Or.inr ⟨rb, 0, rfl, (h.rs.lt rb rfl).2, fun i hi j hj => ?_⟩⟩
  · have h1 := num_ge (G p kr) (meet (nx p (G p kr) i) (hv p j))
    have h2 := num_le (G p kr) (meet (nx p (G p kr) i) (hv p j))
    unfold rowF; omega
  · rw [row_stay p hi (hf.le i hi).1 hj]
    have e := rcs_at p kr i j hi hj
    obtain ⟨-, ⟨h1, _⟩ | ⟨g', cap', cur, hv, hg, hh, hn, hc, hs, ht⟩⟩ := h.rs
    · cases h1
    · cases hv
      have e1 : W.cell? ⟨rb, 0 + i * 256 + j, none⟩ = cur[i * 256 + j]? := by simp [World.cell?, hh]
      rw [← ht, List.getElem?_take_of_lt (by omega)] at e
      rw [e1]
      simpa [rA] using e
theorem Rd.ts_ (h : Rd w1 B ob p S U kr gs sc ro rc gt tc V W) (hl : U.length ≤ 201) (hok : ok p = true) : Df.Ts W (.slice (some ⟨gt, 0, none⟩) U.length tc) U.length (tagF p U) := by
  refine ⟨_, tc, rfl, by omega, fun i => ?_, Or.inr ⟨gt, 0, rfl, (h.ta.lt gt rfl).2, fun i hi => ?_⟩⟩
  · have := tag_ok hok U i
    simp [Df.Dfa.tagOk] at this
    omega
  · have e : (tl2 p U U.length)[i]? = some (.int .i64 (tagF p U i)) := by simp [tl2, hi]
    obtain ⟨-, ⟨h1, _⟩ | ⟨g', cap', cur, hv, hg, hh, hn, hc, hs, ht⟩⟩ := h.ta
    · cases h1
    · cases hv
      have e1 : W.cell? ⟨gt, 0 + i, none⟩ = cur[i]? := by simp [World.cell?, hh]
      rw [← ht, List.getElem?_take_of_lt (by omega)] at e
      rw [e1]
      simpa using e
end
theorem rA_is (p : P) (n : Nat) {b : Nat} (hb : b < 256) : rA p n b = num (grow (hv p) (G p n) (nx p (G p n) n) (b + 1)) (meet (nx p (G p n) n) (hv p b)) := by
  have h := grow_mono (hv p) (G p n) (nx p (G p n) n) (b + 1) (255 - b)
  rw [show b + 1 + (255 - b) = 256 by omega] at h
  exact num_pre h (Nat.lt_of_lt_of_le (G_pos p n) (grow_pre _ _ _ _).length_le) (grow_mem (hv p) (G_pos p n) _ (Nat.lt_succ_self b))
theorem wpList_buildRow {ops : Array Oper} {rest : List Oper} {o : Oper} {a : Act} {Q : Exit → Act → World → Prop} {W : World} (hgd : o.guard = none) (x : Operand) (ho : o.op = .buildSlice 28 1 #[(0, x)]) (l : List Value) (hl : l.length = 256)
    (hx : a.eval x = .agg l.toArray) (h : wpList Try.prog ops Q rest (a.put o.dst (.slice (some ⟨W.heap.size, 0, none⟩) 1 1)) (W.alloc (.cells l.toArray 72))) : wpList Try.prog ops Q (o :: rest) a W := by
  obtain ⟨i, hi, hz, hs, hb⟩ := info_parts info72
  refine wpList_buildSlice hgd 28 72 1 _ ho l.toArray i _ Try.underlying28 hi hz (by rw [hs]; omega) (by rw [hs]; omega) ?_ h
  rw [hs]
  simp only [List.map_toArray, List.map_cons, List.map_nil, hx]
  exact fill_row l hl _ (by simp)
/-- The list of one byte, under way. -/
structure Hl (wb : World) (p : P) (c : Cl) (b x : Nat) (lo : Option Addr) (ln lc : Nat) (W : World) : Prop where
  bl : Below wb.heap.size wb W
  own : W.ownsRow wb.heap.size 3 1 (.slice lo ln lc) ln ((sel x (fun y => mem c y && hasAt p b (y : Int))).map (Value.int .i64))
  len : ln = (sel x (fun y => mem c y && hasAt p b (y : Int))).length
theorem Hl.next {wb : World} {p : P} {c : Cl} {b x : Nat} {lo : Option Addr} {ln lc : Nat} {W W' : World} (h : Hl wb p c b x lo ln lc W) (hb : Below W.heap.size W W') : Hl wb p c b x lo ln lc W' :=
  ⟨h.bl.trans (hb.mono h.bl.size), own_below h.own hb, h.len⟩
theorem Hl.stay {wb : World} {p : P} {c : Cl} {b x : Nat} {lo : Option Addr} {ln lc : Nat} {W : World} (h : Hl wb p c b x lo ln lc W) (e : (mem c x && hasAt p b (x : Int)) = false) : Hl wb p c b (x + 1) lo ln lc W := by
  have e2 : sel (x + 1) (fun y => mem c y && hasAt p b (y : Int)) = sel x (fun y => mem c y && hasAt p b (y : Int)) := by rw [sel_step, if_neg (by rw [e]; simp), List.append_nil]
  exact ⟨h.bl, by rw [e2]; exact h.own, by rw [e2]; exact h.len⟩
end Go.Proofs.Ytlmlkpdppkgenaa
