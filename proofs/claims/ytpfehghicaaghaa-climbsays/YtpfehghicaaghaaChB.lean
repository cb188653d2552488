/-
  The contract of chart.countBody. The contract of chart.sums. The contract of chart.settle.
-/
import Derived.Test.YtpfehghicaaghaaChA
namespace Go.Proofs.Ytpfehghicaaghaa
open Go.RowKit
open Cg

def updB (B : Nat → Nat → Nat → Nat → Nat) (p k i j x : Nat) : Nat → Nat → Nat → Nat → Nat := fun p' k' i' j' => if p' = p ∧ k' = k ∧ i' = i ∧ j' = j then x else B p' k' i' j'
def updN (N : Tb) (a i j x : Nat) : Tb := fun a' i' j' => if a' = (a : Int) ∧ i' = i ∧ j' = j then x else N a' i' j'
def stB (B : Nat → Nat → Nat → Nat → Nat) (p i0 j0 m : Nat) (v : Nat → Nat) : Nat → Nat → Nat → Nat → Nat := fun p' k i j => if p' = p ∧ i = i0 ∧ j = j0 ∧ k ≤ m then v k else B p' k i j
theorem updB_stB (B : Nat → Nat → Nat → Nat → Nat) (p i0 j0 m : Nat) (v : Nat → Nat) : updB (stB B p i0 j0 m v) p (m + 1) i0 j0 (v (m + 1)) = stB B p i0 j0 (m + 1) v := by
  funext p' k i j
  unfold updB stB
  by_cases h1 : p' = p ∧ i = i0 ∧ j = j0
  · obtain ⟨rfl, rfl, rfl⟩ := h1
    by_cases h2 : k = m + 1
    · subst h2; simp
    · by_cases h3 : k ≤ m
      · rw [if_neg (by simp [h2]), if_pos ⟨rfl, rfl, rfl, h3⟩, if_pos ⟨rfl, rfl, rfl, by omega⟩]
      · rw [if_neg (by simp [h2]), if_neg (by simp [h3]), if_neg (by rintro ⟨-, -, -, h⟩; omega)]
  · rw [if_neg (fun h => h1 ⟨h.1, h.2.2.1, h.2.2.2⟩), if_neg (fun h => h1 ⟨h.1, h.2.1, h.2.2.1⟩), if_neg (fun h => h1 ⟨h.1, h.2.1, h.2.2.1⟩)]
theorem stB_zero {B : Nat → Nat → Nat → Nat → Nat} {p i0 j0 : Nat} {v : Nat → Nat} (h : B p 0 i0 j0 = v 0) : stB B p i0 j0 0 v = B := by
  funext p' k i j
  unfold stB
  split
  · rename_i e
    obtain ⟨rfl, rfl, rfl, e⟩ := e
    rw [show k = 0 by omega, h]
  · rfl
theorem updB_zero {B : Nat → Nat → Nat → Nat → Nat} {p i0 j0 : Nat} {v : Nat → Nat} : updB B p 0 i0 j0 (v 0) = stB B p i0 j0 0 v := by
  funext p' k i j
  unfold updB stB
  by_cases h : p' = p ∧ k = 0 ∧ i = i0 ∧ j = j0
  · rw [if_pos h, if_pos ⟨h.1, h.2.2.1, h.2.2.2, by omega⟩, h.2.1]
  · rw [if_neg h, if_neg (fun e => h ⟨e.1, by omega, e.2.1, e.2.2.1⟩)]
section
variable {w0 : World} {y : Lay} {t : Int} {n : Nat} {pv wv : Value} {ps : List Pd} {ws : List Int} {op : Bool} {N : Tb} {B : Nat → Nat → Nat → Nat → Nat} {W : World}
theorem Ch.setB (h : Ch w0 y t n pv wv ps ws op N B W) {p k i j : Nat} (hp : p < ps.length) (hi : i < 21) (hj : j < 21) (x : Nat) : Ch w0 y t n pv wv ps ws op N (updB B p k i j x) (W.setCell ⟨y.bs p, k * 441 + i * 21 + j, none⟩ (.int .u8 (x : Int))) := by
  obtain ⟨q1, q2, q3⟩ := h.qs p hp
  refine ⟨?_, ?_, h.nons.setOther (fun e => q2 e.symm) _, h.bods.setOther (fun e => q3 e.symm) _, fun p' hp' => ?_, h.oq, h.on, h.ob, h.os, h.qn, h.qb, h.nb, h.qs, h.ss⟩
  · have hf : Fm (fun k => k = y.bs p) W (W.setCell ⟨y.bs p, k * 441 + i * 21 + j, none⟩ (.int .u8 (x : Int))) := Fm.set _ rfl
    exact h.bel.trans (hf.below h.bel.size fun k e => by rw [e]; exact h.os p hp)
  · rw [Go.Deep.blk_setCell_other _ _ _ _ (fun e => q1 e.symm)]; exact h.box
  · by_cases e : p' = p
    · subst e
      refine ((h.body p' hp').set (k * 441 + i * 21 + j) _).congr fun c hc => ?_
      obtain ⟨e1, e2, e3⟩ := at_cell (a := k) hi hj
      unfold bf updB
      by_cases e : c = k * 441 + i * 21 + j
      · rw [if_pos e, e, e1, e2, e3, if_pos ⟨rfl, rfl, rfl, rfl⟩]
      · rw [if_neg e, if_neg]
        rintro ⟨-, f1, f2, f3⟩
        exact e (cell_at.2 ⟨by rw [f1, e1], by rw [f2, e2], by rw [f3, e3]⟩)
    · have e2 : updB B p k i j x p' = B p' := by
        funext k' i' j'; unfold updB; rw [if_neg (fun h => e h.1)]
      rw [e2]
      exact (h.body p' hp').setOther (fun e' => e (h.ss _ _ hp' hp e')) _
theorem Ch.setN (h : Ch w0 y t n pv wv ps ws op N B W) {a i j : Nat} (hi : i < 21) (hj : j < 21) (x : Nat) : Ch w0 y t n pv wv ps ws op (updN N a i j x) B (W.setCell ⟨y.bn, a * 441 + i * 21 + j, none⟩ (.int .u8 (x : Int))) := by
  refine ⟨?_, ?_, ?_, h.bods.setOther (fun e => h.nb e.symm) _, fun p' hp' => (h.body p' hp').setOther (h.qs p' hp').2.1 _, h.oq, h.on, h.ob, h.os, h.qn, h.qb, h.nb, h.qs, h.ss⟩
  · have hf : Fm (fun k => k = y.bn) W (W.setCell ⟨y.bn, a * 441 + i * 21 + j, none⟩ (.int .u8 (x : Int))) := Fm.set _ rfl
    exact h.bel.trans (hf.below h.bel.size fun k e => by rw [e]; exact h.on)
  · rw [Go.Deep.blk_setCell_other _ _ _ _ h.qn]; exact h.box
  · refine (h.nons.set (a * 441 + i * 21 + j) _).congr fun c hc => ?_
    obtain ⟨e1, e2, e3⟩ := at_cell (a := a) hi hj
    unfold nf updN
    by_cases e : c = a * 441 + i * 21 + j
    · rw [if_pos e, e, e1, e2, e3, if_pos ⟨rfl, rfl, rfl⟩]
    · rw [if_neg e]
      have : ¬ (((c / 441 : Nat) : Int) = (a : Int) ∧ c % 441 / 21 = i ∧ c % 21 = j) := by
        rintro ⟨f1, f2, f3⟩
        exact e (cell_at.2 ⟨by rw [e1]; omega, by rw [f2, e2], by rw [f3, e3]⟩)
      rw [if_neg this]
end
/-- The numbers of Kids' lists over a piece. -/
def vB (ps : List Pd) (K : Nat) (M : Sy → Nat → Nat → Nat) (p i j k : Nat) : Nat := min 2 (mr K M ((ps.getD p (0, [])).2.take k) i j)
theorem min_add_mul (x a b : Nat) : min 2 (min 2 x + min 2 a * b) = min 2 (x + a * b) := by
  have := min_mul a b
  omega
/-- Up to a cut. -/
def pB (ps : List Pd) (K : Nat) (M : Sy → Nat → Nat → Nat) (p i j k c : Nat) : Nat := min 2 (sm c fun x => mr K M ((ps.getD p (0, [])).2.take k) i x * M ((ps.getD p (0, [])).2.getD k (0, 0)) x j)
theorem pB_zero {ps : List Pd} {K : Nat} {M : Sy → Nat → Nat → Nat} (h : Tri M) {p i j k : Nat} : pB ps K M p i j k i = 0 := by
  unfold pB
  rw [sm_zero fun x hx => by rw [mr_tri h _ hx, Nat.zero_mul]]
  rfl
theorem pB_succ {ps : List Pd} {K : Nat} {M : Sy → Nat → Nat → Nat} {p i j k c : Nat} : min 2 (pB ps K M p i j k c + vB ps K M p i c k * M ((ps.getD p (0, [])).2.getD k (0, 0)) c j) = pB ps K M p i j k (c + 1) := by
  unfold pB vB
  rw [min_add_mul, sm]
theorem pB_end {ps : List Pd} {K : Nat} {M : Sy → Nat → Nat → Nat} (h : Tri M) {p i j k : Nat} (hi : i < K) (hj : j < K) (hk : k < (ps.getD p (0, [])).2.length) : pB ps K M p i j k (j + 1) = vB ps K M p i j (k + 1) := by
  unfold pB vB
  generalize hb : (ps.getD p (0, [])).2 = b at hk ⊢
  have e : b.take (k + 1) = b.take k ++ [b.getD k (0, 0)] := by
    rw [List.take_succ_eq_append_getElem hk, List.getD_eq_getElem?_getD, List.getElem?_eq_getElem hk]; rfl
  rw [e, mr_snoc _ _ hi hj]
  congr 1
  have key : ∀ z, sm (j + 1 + z) (fun x => mr K M (b.take k) i x * M (b.getD k (0, 0)) x j) = sm (j + 1) fun x => mr K M (b.take k) i x * M (b.getD k (0, 0)) x j := by
    intro z
    induction z with
    | zero => rfl
    | succ z ih => rw [← Nat.add_assoc, sm, ih, h _ _ _ (by omega), Nat.mul_zero, Nat.add_zero]
  have := key (K - (j + 1))
  rw [show j + 1 + (K - (j + 1)) = K by omega] at this
  exact this.symm
theorem pB_le {ps : List Pd} {K : Nat} {M : Sy → Nat → Nat → Nat} {p i j k c : Nat} : pB ps K M p i j k c ≤ 2 := Nat.min_le_left _ _
theorem vB_le {ps : List Pd} {K : Nat} {M : Sy → Nat → Nat → Nat} {p i j k : Nat} : vB ps K M p i j k ≤ 2 := Nat.min_le_left _ _

theorem Syms.cell {w : World} {ao : Option Addr} {k c : Nat} {l : List Sy} (h : Syms w (.slice ao k c) l) {i : Nat} (hi : i < l.length) : ∃ b o, ao = some ⟨b, o, none⟩ ∧ b < w.heap.size ∧ w.cell? ⟨b, o + i * 2, none⟩ = some (.int .i64 l[i].1) ∧ w.cell? ⟨b, o + i * 2 + 1, none⟩ = some (.int .i64 l[i].2) := by
  obtain ⟨ao', cap, hv, hm, h | ⟨b, o, h1, h2, h3⟩⟩ := h
  · subst h; simp at hi
  · injection hv with e1 e2 e3
    subst e1
    exact ⟨b, o, h1, h2, (h3 i hi).1, (h3 i hi).2⟩
/-- What countBody holds. -/
structure Cb (w w0 : World) (y : Lay) (t : Int) (n : Nat) (pv wv : Value) (ps : List Pd) (ws : List Int) (op : Bool) (N : Tb) (B : Nat → Nat → Nat → Nat → Nat) (p : Nat) (W : World) : Prop where
  ch : Ch w0 y t n pv wv ps ws op N B W
  fm : Fm (fun k => k = y.bs p) w W
theorem Cb.next {w w0 : World} {y : Lay} {t : Int} {n : Nat} {pv wv : Value} {ps : List Pd} {ws : List Int} {op : Bool} {N : Tb} {B : Nat → Nat → Nat → Nat → Nat} {p : Nat} {W W' : World} (h : Cb w w0 y t n pv wv ps ws op N B p W) (hb : Below W.heap.size W W') : Cb w w0 y t n pv wv ps ws op N B p W' :=
  ⟨h.ch.next hb, h.fm.trans (Fm.of hb) fun _ _ h => h⟩
structure Cs (w w0 : World) (y : Lay) (t : Int) (n : Nat) (pv wv : Value) (ps : List Pd) (ws : List Int) (op : Bool) (N : Tb) (B : Nat → Nat → Nat → Nat → Nat) (p g : Nat) (s0 s1 : Int) (W : World) : Prop where
  cb : Cb w w0 y t n pv wv ps ws op N B p W
  b2 : B2 W g s0 s1
theorem Cs.next {w w0 : World} {y : Lay} {t : Int} {n : Nat} {pv wv : Value} {ps : List Pd} {ws : List Int} {op : Bool} {N : Tb} {B : Nat → Nat → Nat → Nat → Nat} {p g : Nat} {s0 s1 : Int} (W W' : World) (h : Cs w w0 y t n pv wv ps ws op N B p g s0 s1 W) (hb : Below W.heap.size W W') : Cs w w0 y t n pv wv ps ws op N B p g s0 s1 W' := ⟨h.cb.next hb, h.b2.next hb⟩
theorem Rc.at {w0 : World} {t : Int} {n : Nat} {pv wv : Value} {ps : List Pd} {ws : List Int} (rc : Rc w0 t n pv wv ps ws) {p : Nat} (hp : p < ps.length) : OkL t n (ps.getD p (0, [])).2 ∧ (ps.getD p (0, [])).2.length ≤ 8 ∧ 0 ≤ (ps.getD p (0, [])).1 ∧ (ps.getD p (0, [])).1 < (n : Int) := by
  have e : ps.getD p (0, []) = ps[p] := by rw [List.getD_eq_getElem?_getD, List.getElem?_eq_getElem hp]; rfl
  rw [e]
  obtain ⟨h1, h2, h3⟩ := rc.okl _ (List.getElem_mem hp)
  exact ⟨h1, rc.bl _ (List.getElem_mem hp), h2, h3⟩
theorem Rc.cell {w0 : World} {t : Int} {n : Nat} {ao : Option Addr} {m c : Nat} {wv : Value} {ps : List Pd} {ws : List Int} (rc : Rc w0 t n (.slice ao m c) wv ps ws) {p : Nat} (hp : p < ps.length) : ∃ b o uo uc, ao = some ⟨b, o, none⟩ ∧ b < w0.heap.size ∧ w0.cell? ⟨b, o + p * 2, none⟩ = some (.int .i64 (ps.getD p (0, [])).1) ∧ w0.cell? ⟨b, o + p * 2 + 1, none⟩ = some (.slice uo (ps.getD p (0, [])).2.length uc) ∧ Syms w0 (.slice uo (ps.getD p (0, [])).2.length uc) (ps.getD p (0, [])).2 := by
  have e : ps.getD p (0, []) = ps[p] := by rw [List.getD_eq_getElem?_getD, List.getElem?_eq_getElem hp]; rfl
  obtain ⟨ao', cap, hv, hm, h | ⟨b, o, h1, h2, h3⟩⟩ := rc.pds
  · subst h; simp at hp
  · injection hv with e1 e2 e3
    subst e1
    obtain ⟨c0, u, c1, hs⟩ := h3 p hp
    obtain ⟨uo, uc, rfl, hx⟩ := id hs
    rw [e]
    exact ⟨b, o, uo, uc, h1, h2, c0, c1, hs⟩

set_option maxHeartbeats 8000000 in
set_option maxRecDepth 20000 in
theorem countBody_any (w0 : World) (y : Lay) (t : Int) (n : Nat) (pv wv : Value) (ps : List Pd) (ws : List Int) (op : Bool) (N : Tb) (B : Nat → Nat → Nat → Nat → Nat) (w : World) (rc : Rc w0 t n pv wv ps ws) (h : Ch w0 y t n pv wv ps ws op N B w) (hN : ∀ a i j, N a i j ≤ 2) (hlow : ∀ a i j, j < i → N a i j = 0) (p i j : Nat) (hp : p < ps.length) (hij : i ≤ j) (hj : j ≤ ws.length)
    (h0 : i = j ∨ B p 0 i j = 0) (hB : ∀ k c, k ≤ (ps.getD p (0, [])).2.length → i ≤ c → c < j → B p k i c = vB ps (ws.length + 1) (on1 (lf op ws) N) p i c k) :
    Calls Try.prog 110 #[.pointer (some ⟨y.q, 0, none⟩), .int .i64 (p : Int), .int .i64 (i : Int), .int .i64 (j : Int)] w fun e w' => e = .returned (.tuple #[]) ∧ Cb w w0 y t n pv wv ps ws op N (stB B p i j (ps.getD p (0, [])).2.length (vB ps (ws.length + 1) (on1 (lf op ws) N) p i j)) p w' := by
  have HT : Hid (Tri (on1 (lf op ws) N)) := on1_tri (lf_tri op ws) hlow
  have hwl := rc.wl
  have hpl := rc.pl
  have HRC : Hid (Rc w0 t n pv wv ps ws) := rc
  obtain ⟨pao, pc, rfl, hpm, -⟩ := id rc.pds
  obtain ⟨pb, po, uo, uc, rfl, hpb, hc0, hc1, hsy⟩ := rc.cell hp
  obtain ⟨hok, hbl, -, -⟩ := rc.at hp
  have HSY : Hid (Syms w0 (.slice uo (ps.getD p (0, [])).2.length uc) (ps.getD p (0, [])).2) := hsy
  have HOK : Hid (OkL t n (ps.getD p (0, [])).2) := hok
  have HBH : Hid (∀ k c, k ≤ (ps.getD p (0, [])).2.length → i ≤ c → c < j → B p k i c = vB ps (ws.length + 1) (on1 (lf op ws) N) p i c k) := hB
  have HN : Hid (∀ a i j, N a i j ≤ 2) := hN
  clear hsy hok rc hlow hc0 hB hN
  generalize hvb : vB ps (ws.length + 1) (on1 (lf op ws) N) p i j = v
  have HV : Hid (vB ps (ws.length + 1) (on1 (lf op ws) N) p i j = v) := hvb
  clear hvb
  have hv0 : v 0 = if i = j then 1 else 0 := by
    rw [← HV.out]; unfold vB; rw [List.take_zero, mr]; split <;> rfl
  generalize hbd : (ps.getD p (0, [])).2 = bd at hc1 hbl HSY HOK HBH ⊢
  have HBD : Hid ((ps.getD p (0, [])).2 = bd) := hbd
  have z2 : w.cell? ⟨y.q, 2, none⟩ = some (.slice (some ⟨pb, po, none⟩) ps.length pc) := h.bcell 2
  have z6 : w.cell? ⟨y.q, 6, none⟩ = some (.slice (some ⟨y.bb, 0, none⟩) ps.length ps.length) := h.bcell 6
  have zb : w.cell? ⟨y.bb, p, none⟩ = some (.slice (some ⟨y.bs p, 0, none⟩) (bd.length + 1) (bd.length + 1)) := by
    have := h.bods.cell hp
    rw [hbd] at this; exact this
  have zu : w.cell? ⟨pb, po + p * 2 + 1, none⟩ = some (.slice uo bd.length uc) := (h.bel.cell (p := ⟨pb, po + p * 2 + 1, none⟩) hpb).trans hc1
  have hp2 : (p : Int) < (ps.length : Int) := by omega
  have HC : Hid (Ch w0 y t n (.slice (some ⟨pb, po, none⟩) ps.length pc) wv ps ws op N B w) := h
  have HP : Hid (p < ps.length) := hp
  have HC1W : Hid (w0.cell? ⟨pb, po + p * 2 + 1, none⟩ = some (.slice uo bd.length uc)) := hc1
  clear h hc1 hbd
  have k2 : (i : Int) < 21 := by omega
  have k5 : (j : Int) < 21 := by omega
  have fin : ∀ (W1 : World), Cb w w0 y t n (.slice (some ⟨pb, po, none⟩) ps.length pc) wv ps ws op N (stB B p i j 0 v) p W1 → True := fun _ _ => trivial
  clear fin
  by_cases hij2 : i = j
  · rw [if_pos hij2] at hv0
    have c0 := HC.out.scell HP.out (k := 0) (i := i) (j := j) (by omega) (by omega) (by omega)
    have c1 := World.rowIs.frozen (HC.out.body p HP.out) (0 * 441 + i * 21 + j)
    have HC1 : Hid (Cb w w0 y t n (.slice (some ⟨pb, po, none⟩) ps.length pc) wv ps ws op N (stB B p i j 0 v) p (w.setCell ⟨y.bs p, 0 * 441 + i * 21 + j, none⟩ (.int .u8 1))) := by
      refine ⟨?_, Fm.set (X := fun k => k = y.bs p) _ rfl⟩
      have := HC.out.setB HP.out (k := 0) (i := i) (j := j) (by omega) (by omega) (v 0)
      rw [updB_zero, hv0] at this; exact this
    rw [Nat.zero_mul, Nat.zero_add] at c0 c1 HC1
    have hb0 : ((i : Int) == (j : Int)) = true := by simp; omega
    have HIJ : Hid (i = j) := hij2
    have d2 : (w.setCell ⟨y.bs p, i * 21 + j, none⟩ (.int .u8 1)).cell? ⟨y.q, 2, none⟩ = some (.slice (some ⟨pb, po, none⟩) ps.length pc) := HC1.out.ch.bcell 2
    have d3 : (w.setCell ⟨y.bs p, i * 21 + j, none⟩ (.int .u8 1)).cell? ⟨pb, po + p * 2 + 1, none⟩ = some (.slice uo bd.length uc) := (HC1.out.ch.bel.cell (p := ⟨pb, po + p * 2 + 1, none⟩) hpb).trans HC1W.out
    clear hij2
    go_enter Try.func110, Try.ntmps110
    go_wp2_with fail
    go_loopw [39] (fun q wr => ∃ m : Nat, m ≤ bd.length ∧ q = .int .i64 (m : Int) ∧ Cb w w0 y t n (.slice (some ⟨pb, po, none⟩) ps.length pc) wv ps ws op N (stB B p i j m v) p wr) (fun q _ => bd.length - (intOf q).toNat)
    case atStart => exact ⟨0, by omega, rfl, HC1.out⟩
    case round =>
      obtain ⟨m, hm, rfl, hcb⟩ := hrel
      by_cases hlt : m < bd.length
      · obtain ⟨b2, o2, rfl, hb2, d0, d1⟩ := HSY.out.cell hlt
        have hs := HOK.out bd[m] (List.getElem_mem hlt)
        have HGE : Hid (bd.getD m (0, 0) = bd[m]) := by show _ = _; rw [List.getD_eq_getElem?_getD, List.getElem?_eq_getElem hlt]; rfl
        generalize bd[m] = sy at d0 d1 hs HGE
        obtain ⟨s0, s1⟩ := sy
        replace d0 : wr.cell? ⟨b2, o2 + m * 2, none⟩ = some (.int .i64 s0) := (hcb.ch.bel.cell (p := ⟨b2, o2 + m * 2, none⟩) hb2).trans d0
        replace d1 : wr.cell? ⟨b2, o2 + m * 2 + 1, none⟩ = some (.int .i64 s1) := (hcb.ch.bel.cell (p := ⟨b2, o2 + m * 2 + 1, none⟩) hb2).trans d1
        have HS : Hid ((s0 = 1 ∧ 0 ≤ s1 ∧ s1 < t) ∨ (s0 = 2 ∧ 0 ≤ s1 ∧ s1 < (n : Int))) := hs
        have HCS : Hid (Cs w w0 y t n (.slice (some ⟨pb, po, none⟩) ps.length pc) wv ps ws op N (stB B p i j m v) p wr.heap.size s0 s1 (wr.alloc (Obj.cells #[.int .i64 s0, .int .i64 s1] 47))) := ⟨hcb.next (below_alloc _ _), B2.box _ _ _ _⟩
        have hk1 : (m : Int) < (bd.length : Int) := by omega
        have hpz : pB ps (ws.length + 1) (on1 (lf op ws) N) p i j m i = 0 := pB_zero HT.out
        clear hcb hs hm
        go_wp2_with fail
        obtain ⟨g, HG⟩ : ∃ g, Hid (wr.heap.size = g) := ⟨_, (rfl : wr.heap.size = wr.heap.size)⟩
        obtain ⟨W2, HW2⟩ : ∃ W2, Hid (wr.alloc (Obj.cells #[.int .i64 s0, .int .i64 s1] 47) = W2) := ⟨_, (rfl : wr.alloc (Obj.cells #[.int .i64 s0, .int .i64 s1] 47) = _)⟩
        rw [HG.out, HW2.out] at HCS ⊢
        clear HW2 HG d0 d1
        go_loopw [11, 12] (fun a c W => ∃ cc : Nat, i ≤ cc ∧ cc ≤ j + 1 ∧ c = .int .i64 (cc : Int) ∧ a = .int .u8 ((pB ps (ws.length + 1) (on1 (lf op ws) N) p i j m cc : Nat) : Int) ∧ Cs w w0 y t n (.slice (some ⟨pb, po, none⟩) ps.length pc) wv ps ws op N (stB B p i j m v) p g s0 s1 W) (fun _ c _ => j + 1 - (intOf c).toNat)
        case atStart => exact ⟨i, by omega, by omega, rfl, by rw [hpz]; rfl, HCS.out⟩
        case round =>
          obtain ⟨cc, h1, h2, rfl, rfl, hcs⟩ := hrel
          have HCS2 : Hid (Cs w w0 y t n (.slice (some ⟨pb, po, none⟩) ps.length pc) wv ps ws op N (stB B p i j m v) p g s0 s1 wr) := hcs
          by_cases h3 : cc ≤ j
          · have hx : stB B p i j m v p m i cc = vB ps (ws.length + 1) (on1 (lf op ws) N) p i cc m := by
              unfold stB
              by_cases e : cc = j
              · rw [if_pos ⟨rfl, rfl, e, Nat.le_refl _⟩, ← HV.out, e]
              · rw [if_neg (fun h => e h.2.2.1)]; exact HBH.out m cc (by omega) h1 (by omega)
            have hst := pB_succ (ps := ps) (K := ws.length + 1) (M := on1 (lf op ws) N) (p := p) (i := i) (j := j) (k := m) (c := cc)
            rw [HBD.out, HGE.out] at hst
            have a1 := pB_le (ps := ps) (K := ws.length + 1) (M := on1 (lf op ws) N) (p := p) (i := i) (j := j) (k := m) (c := cc)
            have a2 := vB_le (ps := ps) (K := ws.length + 1) (M := on1 (lf op ws) N) (p := p) (i := i) (j := cc) (k := m)
            have a3 : on1 (lf op ws) N (s0, s1) cc j ≤ 2 := by
              unfold on1
              split
              · exact HN.out _ _ _
              · split <;> omega
            have HOF : Hid (∀ W, Cs w w0 y t n (.slice (some ⟨pb, po, none⟩) ps.length pc) wv ps ws op N (stB B p i j m v) p g s0 s1 W → Calls Try.prog 112 #[.pointer (some ⟨y.q, 0, none⟩), .agg #[.int .i64 s0, .int .i64 s1], .int .i64 (cc : Int), .int .i64 (j : Int)] W fun e w' => e = .returned (.int .u8 ((on1 (lf op ws) N (s0, s1) cc j : Nat) : Int)) ∧ Below W.heap.size W w') := fun W hW => of_any w0 y t n _ wv ps ws op N _ W HRC.out hW.cb.ch s0 s1 HS.out cc j h3 hj
            have p0 : ∀ q : Kp (Cs w w0 y t n (.slice (some ⟨pb, po, none⟩) ps.length pc) wv ps ws op N (stB B p i j m v) p g s0 s1), q.W.cell? ⟨y.bs p, m * 441 + i * 21 + cc, none⟩ = some (.int .u8 ((vB ps (ws.length + 1) (on1 (lf op ws) N) p i cc m : Nat) : Int)) := fun q => by
              have := q.h.cb.ch.scell HP.out (k := m) (i := i) (j := cc) (by rw [HBD.out]; omega) (by omega) (by omega)
              rw [hx] at this; exact this
            clear hx
            generalize pB ps (ws.length + 1) (on1 (lf op ws) N) p i j m cc = x1 at hst a1 ⊢
            generalize vB ps (ws.length + 1) (on1 (lf op ws) N) p i cc m = x2 at hst a2 p0
            generalize on1 (lf op ws) N (s0, s1) cc j = x3 at hst a3 HOF
            obtain ⟨x4, hx4⟩ : ∃ x4, x4 = x2 * x3 := ⟨_, rfl⟩
            have a4 : x4 ≤ 4 := by rw [hx4]; exact Nat.mul_le_mul a2 a3
            have hmu : IntKind.u8.wrap ((x2 : Int) * (x3 : Int)) = (x4 : Int) := by
              rw [show ((x2 : Int) * (x3 : Int)) = (x4 : Int) by rw [hx4]; simp]
              simp [IntKind.wrap, IntKind.bits, IntKind.signed]; omega
            rw [← hx4] at hst
            have HPL : Hid (∀ W, Calls Try.prog 111 #[.int .u8 (x1 : Int), .int .u8 (x4 : Int)] W fun e w' => e = .returned (.int .u8 ((min 2 (x1 + x4) : Nat) : Int)) ∧ Below W.heap.size W w') := fun W => plus_any x1 x4 (by omega) a4 W
            rw [hst] at HPL
            clear hx4 a1 a2 a3 a4 hst
            have p1 : ∀ q : Kp (Cs w w0 y t n (.slice (some ⟨pb, po, none⟩) ps.length pc) wv ps ws op N (stB B p i j m v) p g s0 s1), q.W.cell? ⟨g, 0, none⟩ = some (.int .i64 s0) := fun q => q.h.b2.c0
            have p2 : ∀ q : Kp (Cs w w0 y t n (.slice (some ⟨pb, po, none⟩) ps.length pc) wv ps ws op N (stB B p i j m v) p g s0 s1), q.W.cell? ⟨g, 1, none⟩ = some (.int .i64 s1) := fun q => q.h.b2.c1
            have S1' : Cs w w0 y t n (.slice (some ⟨pb, po, none⟩) ps.length pc) wv ps ws op N (stB B p i j m v) p g s0 s1 wr.drew := hcs.next _ _ ((Below.refl _ _).drew)
            have hne : Nonempty (Kp (Cs w w0 y t n (.slice (some ⟨pb, po, none⟩) ps.length pc) wv ps ws op N (stB B p i j m v) p g s0 s1)) := ⟨⟨_, S1'⟩⟩
            have k1 : (cc : Int) < 21 := by omega
            have k2 : (i : Int) < 21 := by omega
            have k3 : (m : Int) < (bd.length : Int) + 1 := by omega
            have k4 : (cc : Int) ≤ (j : Int) := by omega
            go_upto_region 10 with fail
            refine wp_region_kept mixed (by kernel_rfl) S1' ?_
            repeat (go_big_quiet_step (first | (go_at_call 112; with_reducible exact Kp.calls _ Cs.next (HOF.out _ (Kp.h _))) | (go_at_call 111; with_reducible exact Kp.calls _ Cs.next (HPL.out _))))
            refine wpQuiet_nil ?_
            intro W1 hw1
            obtain ⟨⟨W1, HS3⟩, rfl⟩ := hw1
            have HS4 : Hid (Cs w w0 y t n (.slice (some ⟨pb, po, none⟩) ps.length pc) wv ps ws op N (stB B p i j m v) p g s0 s1 W1) := HS3
            clear p0 p1 p2 hne HS3 S1' hcs
            go_wp2_with fail
            go_roundw
            case rel => exact ⟨cc + 1, by omega, by omega, by go_num, rfl, HS4.out⟩
            case measure => simp [intOf]; omega
          · obtain rfl : cc = j + 1 := by omega
            have hen := pB_end HT.out (ps := ps) (K := ws.length + 1) (p := p) (i := i) (j := j) (k := m) (by omega) (by omega) (by rw [HBD.out]; exact hlt)
            rw [hen]
            have hvm : vB ps (ws.length + 1) (on1 (lf op ws) N) p i j (m + 1) = v (m + 1) := by rw [HV.out]
            rw [hvm]
            clear hen hvm
            have c0 := hcs.cb.ch.scell HP.out (k := m + 1) (i := i) (j := j) (by rw [HBD.out]; omega) (by omega) (by omega)
            have c1 := World.rowIs.frozen (hcs.cb.ch.body p HP.out) ((m + 1) * 441 + i * 21 + j)
            have HW4 : Hid (Cb w w0 y t n (.slice (some ⟨pb, po, none⟩) ps.length pc) wv ps ws op N (stB B p i j (m + 1) v) p (wr.setCell ⟨y.bs p, (m + 1) * 441 + i * 21 + j, none⟩ (.int .u8 ((v (m + 1) : Nat) : Int)))) := by
              refine ⟨?_, hcs.cb.fm.trans (Fm.set (X := fun k => k = y.bs p) _ rfl) fun _ _ h => h⟩
              have := hcs.cb.ch.setB HP.out (k := m + 1) (i := i) (j := j) (by omega) (by omega) (v (m + 1))
              rw [updB_stB] at this; exact this
            have k2 : (i : Int) < 21 := by omega
            have k5 : (j : Int) < 21 := by omega
            have k3 : (m : Int) + 1 < (bd.length : Int) + 1 := by omega
            clear hcs
            go_wp2_with fail
            go_roundw
            case rel => exact ⟨m + 1, by omega, by go_num, HW4.out⟩
            case measure => simp [intOf]; omega
      · obtain rfl : m = bd.length := by omega
        go_wp2_with fail
        refine bodyPost_end (v := .tuple #[]) (by simp [results, Try.results110, go_sem]) rfl ⟨rfl, hcb⟩
  · rw [if_neg hij2] at hv0
    have HC1 : Hid (Cb w w0 y t n (.slice (some ⟨pb, po, none⟩) ps.length pc) wv ps ws op N (stB B p i j 0 v) p w) := by
      refine ⟨?_, Fm.refl _ _⟩
      rw [stB_zero (by rw [hv0]; exact h0.resolve_left hij2)]; exact HC.out
    have hb0 : ((i : Int) == (j : Int)) = false := by simp; omega
    go_enter Try.func110, Try.ntmps110
    go_wp2_with fail
    go_loopw [39] (fun q wr => ∃ m : Nat, m ≤ bd.length ∧ q = .int .i64 (m : Int) ∧ Cb w w0 y t n (.slice (some ⟨pb, po, none⟩) ps.length pc) wv ps ws op N (stB B p i j m v) p wr) (fun q _ => bd.length - (intOf q).toNat)
    case atStart => exact ⟨0, by omega, rfl, HC1.out⟩
    case round =>
      obtain ⟨m, hm, rfl, hcb⟩ := hrel
      by_cases hlt : m < bd.length
      · obtain ⟨b2, o2, rfl, hb2, d0, d1⟩ := HSY.out.cell hlt
        have hs := HOK.out bd[m] (List.getElem_mem hlt)
        have HGE : Hid (bd.getD m (0, 0) = bd[m]) := by show _ = _; rw [List.getD_eq_getElem?_getD, List.getElem?_eq_getElem hlt]; rfl
        generalize bd[m] = sy at d0 d1 hs HGE
        obtain ⟨s0, s1⟩ := sy
        replace d0 : wr.cell? ⟨b2, o2 + m * 2, none⟩ = some (.int .i64 s0) := (hcb.ch.bel.cell (p := ⟨b2, o2 + m * 2, none⟩) hb2).trans d0
        replace d1 : wr.cell? ⟨b2, o2 + m * 2 + 1, none⟩ = some (.int .i64 s1) := (hcb.ch.bel.cell (p := ⟨b2, o2 + m * 2 + 1, none⟩) hb2).trans d1
        have HS : Hid ((s0 = 1 ∧ 0 ≤ s1 ∧ s1 < t) ∨ (s0 = 2 ∧ 0 ≤ s1 ∧ s1 < (n : Int))) := hs
        have HCS : Hid (Cs w w0 y t n (.slice (some ⟨pb, po, none⟩) ps.length pc) wv ps ws op N (stB B p i j m v) p wr.heap.size s0 s1 (wr.alloc (Obj.cells #[.int .i64 s0, .int .i64 s1] 47))) := ⟨hcb.next (below_alloc _ _), B2.box _ _ _ _⟩
        have hk1 : (m : Int) < (bd.length : Int) := by omega
        have hpz : pB ps (ws.length + 1) (on1 (lf op ws) N) p i j m i = 0 := pB_zero HT.out
        clear hcb hs hm
        go_wp2_with fail
        obtain ⟨g, HG⟩ : ∃ g, Hid (wr.heap.size = g) := ⟨_, (rfl : wr.heap.size = wr.heap.size)⟩
        obtain ⟨W2, HW2⟩ : ∃ W2, Hid (wr.alloc (Obj.cells #[.int .i64 s0, .int .i64 s1] 47) = W2) := ⟨_, (rfl : wr.alloc (Obj.cells #[.int .i64 s0, .int .i64 s1] 47) = _)⟩
        rw [HG.out, HW2.out] at HCS ⊢
        clear HW2 HG d0 d1
        go_loopw [11, 12] (fun a c W => ∃ cc : Nat, i ≤ cc ∧ cc ≤ j + 1 ∧ c = .int .i64 (cc : Int) ∧ a = .int .u8 ((pB ps (ws.length + 1) (on1 (lf op ws) N) p i j m cc : Nat) : Int) ∧ Cs w w0 y t n (.slice (some ⟨pb, po, none⟩) ps.length pc) wv ps ws op N (stB B p i j m v) p g s0 s1 W) (fun _ c _ => j + 1 - (intOf c).toNat)
        case atStart => exact ⟨i, by omega, by omega, rfl, by rw [hpz]; rfl, HCS.out⟩
        case round =>
          obtain ⟨cc, h1, h2, rfl, rfl, hcs⟩ := hrel
          have HCS2 : Hid (Cs w w0 y t n (.slice (some ⟨pb, po, none⟩) ps.length pc) wv ps ws op N (stB B p i j m v) p g s0 s1 wr) := hcs
          by_cases h3 : cc ≤ j
          · have hx : stB B p i j m v p m i cc = vB ps (ws.length + 1) (on1 (lf op ws) N) p i cc m := by
              unfold stB
              by_cases e : cc = j
              · rw [if_pos ⟨rfl, rfl, e, Nat.le_refl _⟩, ← HV.out, e]
              · rw [if_neg (fun h => e h.2.2.1)]; exact HBH.out m cc (by omega) h1 (by omega)
            have hst := pB_succ (ps := ps) (K := ws.length + 1) (M := on1 (lf op ws) N) (p := p) (i := i) (j := j) (k := m) (c := cc)
            rw [HBD.out, HGE.out] at hst
            have a1 := pB_le (ps := ps) (K := ws.length + 1) (M := on1 (lf op ws) N) (p := p) (i := i) (j := j) (k := m) (c := cc)
            have a2 := vB_le (ps := ps) (K := ws.length + 1) (M := on1 (lf op ws) N) (p := p) (i := i) (j := cc) (k := m)
            have a3 : on1 (lf op ws) N (s0, s1) cc j ≤ 2 := by
              unfold on1
              split
              · exact HN.out _ _ _
              · split <;> omega
            have HOF : Hid (∀ W, Cs w w0 y t n (.slice (some ⟨pb, po, none⟩) ps.length pc) wv ps ws op N (stB B p i j m v) p g s0 s1 W → Calls Try.prog 112 #[.pointer (some ⟨y.q, 0, none⟩), .agg #[.int .i64 s0, .int .i64 s1], .int .i64 (cc : Int), .int .i64 (j : Int)] W fun e w' => e = .returned (.int .u8 ((on1 (lf op ws) N (s0, s1) cc j : Nat) : Int)) ∧ Below W.heap.size W w') := fun W hW => of_any w0 y t n _ wv ps ws op N _ W HRC.out hW.cb.ch s0 s1 HS.out cc j h3 hj
            have p0 : ∀ q : Kp (Cs w w0 y t n (.slice (some ⟨pb, po, none⟩) ps.length pc) wv ps ws op N (stB B p i j m v) p g s0 s1), q.W.cell? ⟨y.bs p, m * 441 + i * 21 + cc, none⟩ = some (.int .u8 ((vB ps (ws.length + 1) (on1 (lf op ws) N) p i cc m : Nat) : Int)) := fun q => by
              have := q.h.cb.ch.scell HP.out (k := m) (i := i) (j := cc) (by rw [HBD.out]; omega) (by omega) (by omega)
              rw [hx] at this; exact this
            clear hx
            generalize pB ps (ws.length + 1) (on1 (lf op ws) N) p i j m cc = x1 at hst a1 ⊢
            generalize vB ps (ws.length + 1) (on1 (lf op ws) N) p i cc m = x2 at hst a2 p0
            generalize on1 (lf op ws) N (s0, s1) cc j = x3 at hst a3 HOF
            obtain ⟨x4, hx4⟩ : ∃ x4, x4 = x2 * x3 := ⟨_, rfl⟩
            have a4 : x4 ≤ 4 := by rw [hx4]; exact Nat.mul_le_mul a2 a3
            have hmu : IntKind.u8.wrap ((x2 : Int) * (x3 : Int)) = (x4 : Int) := by
              rw [show ((x2 : Int) * (x3 : Int)) = (x4 : Int) by rw [hx4]; simp]
              simp [IntKind.wrap, IntKind.bits, IntKind.signed]; omega
            rw [← hx4] at hst
            have HPL : Hid (∀ W, Calls Try.prog 111 #[.int .u8 (x1 : Int), .int .u8 (x4 : Int)] W fun e w' => e = .returned (.int .u8 ((min 2 (x1 + x4) : Nat) : Int)) ∧ Below W.heap.size W w') := fun W => plus_any x1 x4 (by omega) a4 W
            rw [hst] at HPL
            clear hx4 a1 a2 a3 a4 hst
            have p1 : ∀ q : Kp (Cs w w0 y t n (.slice (some ⟨pb, po, none⟩) ps.length pc) wv ps ws op N (stB B p i j m v) p g s0 s1), q.W.cell? ⟨g, 0, none⟩ = some (.int .i64 s0) := fun q => q.h.b2.c0
            have p2 : ∀ q : Kp (Cs w w0 y t n (.slice (some ⟨pb, po, none⟩) ps.length pc) wv ps ws op N (stB B p i j m v) p g s0 s1), q.W.cell? ⟨g, 1, none⟩ = some (.int .i64 s1) := fun q => q.h.b2.c1
            have S1' : Cs w w0 y t n (.slice (some ⟨pb, po, none⟩) ps.length pc) wv ps ws op N (stB B p i j m v) p g s0 s1 wr.drew := hcs.next _ _ ((Below.refl _ _).drew)
            have hne : Nonempty (Kp (Cs w w0 y t n (.slice (some ⟨pb, po, none⟩) ps.length pc) wv ps ws op N (stB B p i j m v) p g s0 s1)) := ⟨⟨_, S1'⟩⟩
            have k1 : (cc : Int) < 21 := by omega
            have k2 : (i : Int) < 21 := by omega
            have k3 : (m : Int) < (bd.length : Int) + 1 := by omega
            have k4 : (cc : Int) ≤ (j : Int) := by omega
            go_upto_region 10 with fail
            refine wp_region_kept mixed (by kernel_rfl) S1' ?_
            repeat (go_big_quiet_step (first | (go_at_call 112; with_reducible exact Kp.calls _ Cs.next (HOF.out _ (Kp.h _))) | (go_at_call 111; with_reducible exact Kp.calls _ Cs.next (HPL.out _))))
            refine wpQuiet_nil ?_
            intro W1 hw1
            obtain ⟨⟨W1, HS3⟩, rfl⟩ := hw1
            have HS4 : Hid (Cs w w0 y t n (.slice (some ⟨pb, po, none⟩) ps.length pc) wv ps ws op N (stB B p i j m v) p g s0 s1 W1) := HS3
            clear p0 p1 p2 hne HS3 S1' hcs
            go_wp2_with fail
            go_roundw
            case rel => exact ⟨cc + 1, by omega, by omega, by go_num, rfl, HS4.out⟩
            case measure => simp [intOf]; omega
          · obtain rfl : cc = j + 1 := by omega
            have hen := pB_end HT.out (ps := ps) (K := ws.length + 1) (p := p) (i := i) (j := j) (k := m) (by omega) (by omega) (by rw [HBD.out]; exact hlt)
            rw [hen]
            have hvm : vB ps (ws.length + 1) (on1 (lf op ws) N) p i j (m + 1) = v (m + 1) := by rw [HV.out]
            rw [hvm]
            clear hen hvm
            have c0 := hcs.cb.ch.scell HP.out (k := m + 1) (i := i) (j := j) (by rw [HBD.out]; omega) (by omega) (by omega)
            have c1 := World.rowIs.frozen (hcs.cb.ch.body p HP.out) ((m + 1) * 441 + i * 21 + j)
            have HW4 : Hid (Cb w w0 y t n (.slice (some ⟨pb, po, none⟩) ps.length pc) wv ps ws op N (stB B p i j (m + 1) v) p (wr.setCell ⟨y.bs p, (m + 1) * 441 + i * 21 + j, none⟩ (.int .u8 ((v (m + 1) : Nat) : Int)))) := by
              refine ⟨?_, hcs.cb.fm.trans (Fm.set (X := fun k => k = y.bs p) _ rfl) fun _ _ h => h⟩
              have := hcs.cb.ch.setB HP.out (k := m + 1) (i := i) (j := j) (by omega) (by omega) (v (m + 1))
              rw [updB_stB] at this; exact this
            have k2 : (i : Int) < 21 := by omega
            have k5 : (j : Int) < 21 := by omega
            have k3 : (m : Int) + 1 < (bd.length : Int) + 1 := by omega
            clear hcs
            go_wp2_with fail
            go_roundw
            case rel => exact ⟨m + 1, by omega, by go_num, HW4.out⟩
            case measure => simp [intOf]; omega
      · obtain rfl : m = bd.length := by omega
        go_wp2_with fail
        refine bodyPost_end (v := .tuple #[]) (by simp [results, Try.results110, go_sem]) rfl ⟨rfl, hcb⟩
end Go.Proofs.Ytpfehghicaaghaa

namespace Go.Proofs.Ytpfehghicaaghaa
open Go.RowKit
open Cg

theorem info5 : (Try.prog.info? 5).map (fun i => (i.zero, i.size, i.bytes)) = some (some (.int .u8 0), 1, 1) := by kernel_rfl
def mB (ps : List Pd) (K : Nat) (M : Sy → Nat → Nat → Nat) (B : Nat → Nat → Nat → Nat → Nat) (i j m : Nat) : Nat → Nat → Nat → Nat → Nat := fun p k i' j' => if p < m ∧ i' = i ∧ j' = j ∧ k ≤ (ps.getD p (0, [])).2.length then vB ps K M p i j k else B p k i' j'
theorem mB_zero {ps : List Pd} {K : Nat} {M : Sy → Nat → Nat → Nat} {B : Nat → Nat → Nat → Nat → Nat} {i j : Nat} : mB ps K M B i j 0 = B := by
  funext p k i' j'; unfold mB; rw [if_neg (by omega)]
theorem mB_succ {ps : List Pd} {K : Nat} {M : Sy → Nat → Nat → Nat} {B : Nat → Nat → Nat → Nat → Nat} {i j m : Nat} : stB (mB ps K M B i j m) m i j (ps.getD m (0, [])).2.length (vB ps K M m i j) = mB ps K M B i j (m + 1) := by
  funext p k i' j'
  unfold stB mB
  by_cases e : p = m
  · subst e
    by_cases e2 : i' = i ∧ j' = j ∧ k ≤ (ps.getD p (0, [])).2.length
    · rw [if_pos ⟨rfl, e2⟩, if_pos ⟨by omega, e2⟩]
    · rw [if_neg (fun h => e2 h.2), if_neg (by omega), if_neg (fun h => e2 h.2)]
  · rw [if_neg (fun h => e h.1)]
    by_cases e2 : p < m
    · by_cases e3 : i' = i ∧ j' = j ∧ k ≤ (ps.getD p (0, [])).2.length
      · rw [if_pos ⟨e2, e3⟩, if_pos ⟨by omega, e3⟩]
      · rw [if_neg (fun h => e3 h.2), if_neg (fun h => e3 h.2)]
    · rw [if_neg (fun h => e2 h.1), if_neg (by omega)]
/-- The sums of the first m productions. -/
def lS (ps : List Pd) (K : Nat) (M : Sy → Nat → Nat → Nat) (i j m : Nat) (a : Int) : Nat := min 2 (sm m fun q => if (ps.getD q (0, [])).1 = a then mr K M (ps.getD q (0, [])).2 i j else 0)
theorem lS_end {ps : List Pd} {K : Nat} {M : Sy → Nat → Nat → Nat} {i j : Nat} (a : Int) : lS ps K M i j ps.length a = stm ps K M a i j := rfl
theorem lS_le {ps : List Pd} {K : Nat} {M : Sy → Nat → Nat → Nat} {i j m : Nat} {a : Int} : lS ps K M i j m a ≤ 2 := Nat.min_le_left _ _
theorem lS_succ {ps : List Pd} {K : Nat} {M : Sy → Nat → Nat → Nat} {i j m : Nat} (a : Int) : lS ps K M i j (m + 1) a = if (ps.getD m (0, [])).1 = a then min 2 (lS ps K M i j m a + vB ps K M m i j (ps.getD m (0, [])).2.length) else lS ps K M i j m a := by
  unfold lS vB
  rw [sm, List.take_length]
  split
  · omega
  · omega

/-- What sums holds. -/
structure Cu (w w0 : World) (y : Lay) (t : Int) (n : Nat) (pv wv : Value) (ps : List Pd) (ws : List Int) (op : Bool) (N : Tb) (B : Nat → Nat → Nat → Nat → Nat) (g : Nat) (l : Int → Nat) (W : World) : Prop where
  ch : Ch w0 y t n pv wv ps ws op N B W
  fm : Fm (fun k => ∃ p, p < ps.length ∧ k = y.bs p) w W
  ge : w.heap.size ≤ g
  rw : W.rowIs g 5 n (fun a => .int .u8 ((l (a : Int) : Nat) : Int))
theorem Cu.next {w w0 : World} {y : Lay} {t : Int} {n : Nat} {pv wv : Value} {ps : List Pd} {ws : List Int} {op : Bool} {N : Tb} {B : Nat → Nat → Nat → Nat → Nat} {g : Nat} {l : Int → Nat} {W W' : World} (h : Cu w w0 y t n pv wv ps ws op N B g l W) (hb : Below W.heap.size W W') : Cu w w0 y t n pv wv ps ws op N B g l W' :=
  ⟨h.ch.next hb, h.fm.trans (Fm.of hb) fun _ _ h => h, h.ge, h.rw.of_block (hb.block _ h.rw.lt)⟩
structure Cv (w w0 : World) (y : Lay) (t : Int) (n : Nat) (pv wv : Value) (ps : List Pd) (ws : List Int) (op : Bool) (N : Tb) (B : Nat → Nat → Nat → Nat → Nat) (g : Nat) (l : Int → Nat) (gp : Nat) (x : Int) (u : Value) (bd : List Sy) (W : World) : Prop where
  cu : Cu w w0 y t n pv wv ps ws op N B g l W
  pb : Pb gp x u bd W
theorem Cv.next {w w0 : World} {y : Lay} {t : Int} {n : Nat} {pv wv : Value} {ps : List Pd} {ws : List Int} {op : Bool} {N : Tb} {B : Nat → Nat → Nat → Nat → Nat} {g : Nat} {l : Int → Nat} {gp : Nat} {x : Int} {u : Value} {bd : List Sy} (W W' : World) (h : Cv w w0 y t n pv wv ps ws op N B g l gp x u bd W) (hb : Below W.heap.size W W') : Cv w w0 y t n pv wv ps ws op N B g l gp x u bd W' :=
  ⟨h.cu.next hb, h.pb.next hb⟩
theorem Ch.other {w0 : World} {y : Lay} {t : Int} {n : Nat} {pv wv : Value} {ps : List Pd} {ws : List Int} {op : Bool} {N : Tb} {B : Nat → Nat → Nat → Nat → Nat} {W : World} (h : Ch w0 y t n pv wv ps ws op N B W) {a : Addr} (h0 : w0.heap.size ≤ a.block) (h1 : y.q ≠ a.block) (h2 : y.bn ≠ a.block) (h3 : y.bb ≠ a.block) (h4 : ∀ p, p < ps.length → y.bs p ≠ a.block) (v : Value) : Ch w0 y t n pv wv ps ws op N B (W.setCell a v) := by
  refine ⟨?_, ?_, h.nons.setOther h2 _, h.bods.setOther h3 _, fun p hp => (h.body p hp).setOther (h4 p hp) _, h.oq, h.on, h.ob, h.os, h.qn, h.qb, h.nb, h.qs, h.ss⟩
  · exact h.bel.trans ⟨rfl, rfl, rfl, by simp, fun k hk => Go.Deep.blk_setCell_other _ _ _ _ fun e => by have := h.bel.size; omega⟩
  · rw [Go.Deep.blk_setCell_other _ _ _ _ h1]; exact h.box
theorem Fm.more {X : Nat → Prop} {w W : World} (h : Fm X w W) {a : Addr} (ha : w.heap.size ≤ a.block) (v : Value) : Fm X w (W.setCell a v) :=
  ⟨h.os, h.tape, h.output, by simp; exact h.size, fun k hk hx => (Go.Deep.blk_setCell_other _ _ _ _ fun e => by omega).trans (h.block k hk hx)⟩

set_option maxHeartbeats 8000000 in
set_option maxRecDepth 20000 in
theorem sums_any (w0 : World) (y : Lay) (t : Int) (n : Nat) (pv wv : Value) (ps : List Pd) (ws : List Int) (op : Bool) (N : Tb) (B : Nat → Nat → Nat → Nat → Nat) (w : World) (rc : Rc w0 t n pv wv ps ws) (h : Ch w0 y t n pv wv ps ws op N B w) (hN : ∀ a i j, N a i j ≤ 2) (hlow : ∀ a i j, j < i → N a i j = 0) (i j : Nat) (hij : i ≤ j) (hj : j ≤ ws.length)
    (h0 : i = j ∨ ∀ p, p < ps.length → B p 0 i j = 0) (hB : ∀ p k c, p < ps.length → k ≤ (ps.getD p (0, [])).2.length → i ≤ c → c < j → B p k i c = vB ps (ws.length + 1) (on1 (lf op ws) N) p i c k) :
    Calls Try.prog 91 #[.pointer (some ⟨y.q, 0, none⟩), .int .i64 (i : Int), .int .i64 (j : Int)] w fun e w' => ∃ g, e = .returned (.slice (some ⟨g, 0, none⟩) n n) ∧ Cu w w0 y t n pv wv ps ws op N (mB ps (ws.length + 1) (on1 (lf op ws) N) B i j ps.length) g (fun a => stm ps (ws.length + 1) (on1 (lf op ws) N) a i j) w' := by
  have hwl := rc.wl
  have hpl := rc.pl
  have hnl := rc.nl
  have HRC : Hid (Rc w0 t n pv wv ps ws) := rc
  obtain ⟨pao, pc, rfl, hpm, -⟩ := id rc.pds
  have z1 : w.cell? ⟨y.q, 1, none⟩ = some (.int .i64 (n : Int)) := h.bcell 1
  have z2 : ∀ o, (w.alloc o).cell? ⟨y.q, 2, none⟩ = some (.slice pao ps.length pc) := fun o => (h.next (below_alloc _ _)).bcell 2
  have HC : Hid (Ch w0 y t n (.slice pao ps.length pc) wv ps ws op N B w) := h
  have HN : Hid (∀ a i j, N a i j ≤ 2) := hN
  have HL : Hid (∀ a i j, j < i → N a i j = 0) := hlow
  have H0 : Hid (i = j ∨ ∀ p, p < ps.length → B p 0 i j = 0) := h0
  have HBH : Hid (∀ p k c, p < ps.length → k ≤ (ps.getD p (0, [])).2.length → i ≤ c → c < j → B p k i c = vB ps (ws.length + 1) (on1 (lf op ws) N) p i c k) := hB
  have HU0 : Hid (Cu w w0 y t n (.slice pao ps.length pc) wv ps ws op N (mB ps (ws.length + 1) (on1 (lf op ws) N) B i j 0) w.heap.size (lS ps (ws.length + 1) (on1 (lf op ws) N) i j 0) (w.alloc (.cells (madeCells #[.int .u8 0] n) 5))) := by
    refine ⟨?_, Fm.of (below_alloc _ _), Nat.le_refl _, World.rowIs_made _ _ _ _⟩
    rw [mB_zero]; exact h.next (below_alloc _ _)
  have hmk := run_make_row' (P := Try.prog) 152 5 (.int .u8 0) 1 Try.underlying152 info5 rfl .i64 .i64 n (by omega) (by omega)
  clear h rc hN hlow h0 hB
  go_enter Try.func91, Try.ntmps91
  go_wp2_with fail
  obtain ⟨g, HG⟩ : ∃ g, Hid (w.heap.size = g) := ⟨_, (rfl : w.heap.size = w.heap.size)⟩
  rw [HG.out] at HU0 ⊢
  clear z1 z2 hmk
  go_loopw [22] (fun q wr => ∃ m : Nat, m ≤ ps.length ∧ q = .int .i64 (m : Int) ∧ Cu w w0 y t n (.slice pao ps.length pc) wv ps ws op N (mB ps (ws.length + 1) (on1 (lf op ws) N) B i j m) g (lS ps (ws.length + 1) (on1 (lf op ws) N) i j m) wr) (fun q _ => ps.length - (intOf q).toNat)
  case atStart => exact ⟨0, by omega, rfl, HU0.out⟩
  case round =>
    obtain ⟨m, hm, rfl, hcu⟩ := hrel
    by_cases hlt : m < ps.length
    · have hrc := HRC.out
      obtain ⟨pb, po, uo, uc, rfl, hpb, hc0, hc1, hsy⟩ := hrc.cell hlt
      obtain ⟨hok, hbl, hh1, hh2⟩ := hrc.at hlt
      have hcall := fun W (hW : Ch w0 y t n (.slice (some ⟨pb, po, none⟩) ps.length pc) wv ps ws op N (mB ps (ws.length + 1) (on1 (lf op ws) N) B i j m) W) => countBody_any w0 y t n _ wv ps ws op N _ W hrc hW HN.out HL.out m i j hlt hij hj (by
        rcases H0.out with h | h
        · exact Or.inl h
        · right; unfold mB; rw [if_neg (by omega)]; exact h m hlt) (fun k c h1 h2 h3 => by
          unfold mB; rw [if_neg (by omega)]; exact HBH.out m k c hlt h1 h2 h3)
      rw [mB_succ] at hcall
      have HLS : Hid (∀ a, lS ps (ws.length + 1) (on1 (lf op ws) N) i j (m + 1) a = if (ps.getD m (0, [])).1 = a then min 2 (lS ps (ws.length + 1) (on1 (lf op ws) N) i j m a + vB ps (ws.length + 1) (on1 (lf op ws) N) m i j (ps.getD m (0, [])).2.length) else lS ps (ws.length + 1) (on1 (lf op ws) N) i j m a) := fun a => lS_succ a
      have HVM : Hid (mB ps (ws.length + 1) (on1 (lf op ws) N) B i j (m + 1) m (ps.getD m (0, [])).2.length i j = vB ps (ws.length + 1) (on1 (lf op ws) N) m i j (ps.getD m (0, [])).2.length) := by
        show _ = _
        unfold mB; rw [if_pos ⟨by omega, rfl, rfl, Nat.le_refl _⟩]
      have a2 := vB_le (ps := ps) (K := ws.length + 1) (M := on1 (lf op ws) N) (p := m) (i := i) (j := j) (k := (ps.getD m (0, [])).2.length)
      obtain ⟨hd, HHD⟩ : ∃ hd : Nat, Hid ((ps.getD m (0, [])).1 = (hd : Int)) := ⟨(ps.getD m (0, [])).1.toNat, by show _ = _; omega⟩
      rw [HHD.out] at hc0 hh2 HLS
      generalize hbd : (ps.getD m (0, [])).2 = bd at hc1 hbl hsy HLS HVM a2
      have HBD : Hid ((ps.getD m (0, [])).2 = bd) := hbd
      have a1 := lS_le (ps := ps) (K := ws.length + 1) (M := on1 (lf op ws) N) (i := i) (j := j) (m := m) (a := (hd : Int))
      generalize vB ps (ws.length + 1) (on1 (lf op ws) N) m i j bd.length = xv at HLS HVM a2
      have HLT : Hid (m < ps.length) := hlt
      replace hc0 : wr.cell? ⟨pb, po + m * 2, none⟩ = some (.int .i64 (hd : Int)) := (hcu.ch.bel.cell (p := ⟨pb, po + m * 2, none⟩) hpb).trans hc0
      replace hc1 : wr.cell? ⟨pb, po + m * 2 + 1, none⟩ = some (.slice uo bd.length uc) := (hcu.ch.bel.cell (p := ⟨pb, po + m * 2 + 1, none⟩) hpb).trans hc1
      have hb2 := below_alloc wr (Obj.cells #[.int .i64 (hd : Int), .slice uo bd.length uc] 88)
      have HCU : Hid (Cu w w0 y t n (.slice (some ⟨pb, po, none⟩) ps.length pc) wv ps ws op N (mB ps (ws.length + 1) (on1 (lf op ws) N) B i j m) g (lS ps (ws.length + 1) (on1 (lf op ws) N) i j m) (wr.alloc (Obj.cells #[.int .i64 (hd : Int), .slice uo bd.length uc] 88))) := hcu.next hb2
      have HPB : Hid (Pb wr.heap.size (hd : Int) (.slice uo bd.length uc) bd (wr.alloc (Obj.cells #[.int .i64 (hd : Int), .slice uo bd.length uc] 88))) := Pb.box (hsy.below hcu.ch.bel) _
      replace hcall := hcall _ HCU.out.ch
      have hk1 : (m : Int) < (ps.length : Int) := by omega
      have HGN : Hid (wr.heap.size ≠ g) := fun e => by have := hcu.rw.lt; omega
      have HGE : Hid (w0.heap.size ≤ wr.heap.size) := hcu.ch.bel.size
      have HQS : Hid (∀ p, p < ps.length → y.bs p < wr.heap.size) := fun p hp => (hcu.ch.body p hp).lt
      have hsy0 : Hid (Syms w0 (.slice uo bd.length uc) bd) := hsy
      clear hcu hb2 hsy hok hrc hbd
      go_wp2_with fail
      obtain ⟨gp, HGP⟩ : ∃ gp, Hid (wr.heap.size = gp) := ⟨_, (rfl : wr.heap.size = wr.heap.size)⟩
      rw [HGP.out] at HPB HGN HGE HQS ⊢
      refine hcall.mono ?_
      rintro _ w2 ⟨rfl, hcb⟩
      have HW2 : Hid (Cv w w0 y t n (.slice (some ⟨pb, po, none⟩) ps.length pc) wv ps ws op N (mB ps (ws.length + 1) (on1 (lf op ws) N) B i j (m + 1)) g (lS ps (ws.length + 1) (on1 (lf op ws) N) i j m) gp (hd : Int) (.slice uo bd.length uc) bd w2) := by
        have hne : ∀ k, w0.heap.size ≤ k → k < (wr.alloc (Obj.cells #[.int .i64 (hd : Int), .slice uo bd.length uc] 88)).heap.size → k ≠ y.bs m → w2.heap[k]? = (wr.alloc (Obj.cells #[.int .i64 (hd : Int), .slice uo bd.length uc] 88)).heap[k]? := fun k _ h1 h2 => hcb.fm.block k h1 h2
        have hgm : g ≠ y.bs m := fun e => by
          have h1 := HCU.out.ge
          have h2 := (HC.out.body m HLT.out).lt
          omega
        refine ⟨⟨hcb.ch, HCU.out.fm.trans hcb.fm fun q _ e => ⟨m, HLT.out, e⟩, HCU.out.ge, HCU.out.rw.of_block (hcb.fm.block _ HCU.out.rw.lt hgm)⟩, ?_⟩
        have hpm : gp ≠ y.bs m := fun e => by have := HQS.out m HLT.out; omega
        exact ⟨Nat.lt_of_lt_of_le HPB.out.lt hcb.fm.size, (hcb.fm.cell (p := ⟨gp, 0, none⟩) HPB.out.lt hpm).trans HPB.out.c0, (hcb.fm.cell (p := ⟨gp, 1, none⟩) HPB.out.lt hpm).trans HPB.out.c1, hsy0.out.below hcb.ch.bel⟩
      clear hcall hc0 hc1 hcb HCU HPB
      go_upto_region 6 with fail
      have S1' : Cv w w0 y t n (.slice (some ⟨pb, po, none⟩) ps.length pc) wv ps ws op N (mB ps (ws.length + 1) (on1 (lf op ws) N) B i j (m + 1)) g (lS ps (ws.length + 1) (on1 (lf op ws) N) i j m) gp (hd : Int) (.slice uo bd.length uc) bd w2.drew := HW2.out.next _ _ ((Below.refl _ _).drew)
      have hne : Nonempty (Kp (Cv w w0 y t n (.slice (some ⟨pb, po, none⟩) ps.length pc) wv ps ws op N (mB ps (ws.length + 1) (on1 (lf op ws) N) B i j (m + 1)) g (lS ps (ws.length + 1) (on1 (lf op ws) N) i j m) gp (hd : Int) (.slice uo bd.length uc) bd)) := ⟨⟨_, S1'⟩⟩
      have p0 : ∀ q : Kp (Cv w w0 y t n (.slice (some ⟨pb, po, none⟩) ps.length pc) wv ps ws op N (mB ps (ws.length + 1) (on1 (lf op ws) N) B i j (m + 1)) g (lS ps (ws.length + 1) (on1 (lf op ws) N) i j m) gp (hd : Int) (.slice uo bd.length uc) bd), q.W.cell? ⟨gp, 0, none⟩ = some (.int .i64 (hd : Int)) := fun q => q.h.pb.c0
      have p1 : ∀ q : Kp (Cv w w0 y t n (.slice (some ⟨pb, po, none⟩) ps.length pc) wv ps ws op N (mB ps (ws.length + 1) (on1 (lf op ws) N) B i j (m + 1)) g (lS ps (ws.length + 1) (on1 (lf op ws) N) i j m) gp (hd : Int) (.slice uo bd.length uc) bd), q.W.cell? ⟨gp, 1, none⟩ = some (.slice uo bd.length uc) := fun q => q.h.pb.c1
      have hdn : hd < n := by omega
      have p2 : ∀ q : Kp (Cv w w0 y t n (.slice (some ⟨pb, po, none⟩) ps.length pc) wv ps ws op N (mB ps (ws.length + 1) (on1 (lf op ws) N) B i j (m + 1)) g (lS ps (ws.length + 1) (on1 (lf op ws) N) i j m) gp (hd : Int) (.slice uo bd.length uc) bd), q.W.cell? ⟨g, hd, none⟩ = some (.int .u8 ((lS ps (ws.length + 1) (on1 (lf op ws) N) i j m (hd : Int) : Nat) : Int)) := fun q => q.h.cu.rw.cell hdn
      have p3 : ∀ q : Kp (Cv w w0 y t n (.slice (some ⟨pb, po, none⟩) ps.length pc) wv ps ws op N (mB ps (ws.length + 1) (on1 (lf op ws) N) B i j (m + 1)) g (lS ps (ws.length + 1) (on1 (lf op ws) N) i j m) gp (hd : Int) (.slice uo bd.length uc) bd), q.W.cell? ⟨y.q, 6, none⟩ = some (.slice (some ⟨y.bb, 0, none⟩) ps.length ps.length) := fun q => q.h.cu.ch.bcell 6
      have p4 : ∀ q : Kp (Cv w w0 y t n (.slice (some ⟨pb, po, none⟩) ps.length pc) wv ps ws op N (mB ps (ws.length + 1) (on1 (lf op ws) N) B i j (m + 1)) g (lS ps (ws.length + 1) (on1 (lf op ws) N) i j m) gp (hd : Int) (.slice uo bd.length uc) bd), q.W.cell? ⟨y.bb, m, none⟩ = some (.slice (some ⟨y.bs m, 0, none⟩) (bd.length + 1) (bd.length + 1)) := fun q => by
        have := q.h.cu.ch.bods.cell HLT.out
        rw [HBD.out] at this; exact this
      have p5 : ∀ q : Kp (Cv w w0 y t n (.slice (some ⟨pb, po, none⟩) ps.length pc) wv ps ws op N (mB ps (ws.length + 1) (on1 (lf op ws) N) B i j (m + 1)) g (lS ps (ws.length + 1) (on1 (lf op ws) N) i j m) gp (hd : Int) (.slice uo bd.length uc) bd), q.W.cell? ⟨y.bs m, bd.length * 441 + i * 21 + j, none⟩ = some (.int .u8 (xv : Int)) := fun q => by
        have := q.h.cu.ch.scell HLT.out (k := bd.length) (i := i) (j := j) (by rw [HBD.out]; omega) (by omega) (by omega)
        rw [HVM.out] at this; exact this
      have HPL : Hid (∀ W, Calls Try.prog 111 #[.int .u8 ((lS ps (ws.length + 1) (on1 (lf op ws) N) i j m (hd : Int) : Nat) : Int), .int .u8 (xv : Int)] W fun e w' => e = .returned (.int .u8 ((min 2 (lS ps (ws.length + 1) (on1 (lf op ws) N) i j m (hd : Int) + xv) : Nat) : Int)) ∧ Below W.heap.size W w') := fun W => plus_any _ xv (by omega) (by omega) W
      obtain ⟨xn, HXN⟩ : ∃ xn, Hid (min 2 (lS ps (ws.length + 1) (on1 (lf op ws) N) i j m (hd : Int) + xv) = xn) := ⟨_, (rfl : min 2 (lS ps (ws.length + 1) (on1 (lf op ws) N) i j m (hd : Int) + xv) = _)⟩
      rw [HXN.out] at HPL
      obtain ⟨xo, HXO⟩ : ∃ xo, Hid (lS ps (ws.length + 1) (on1 (lf op ws) N) i j m (hd : Int) = xo) := ⟨_, (rfl : lS ps (ws.length + 1) (on1 (lf op ws) N) i j m (hd : Int) = _)⟩
      rw [HXO.out] at HPL p2
      have k2 : (i : Int) < 21 := by omega
      have k3 : (j : Int) < 21 := by omega
      have k4 : (hd : Int) < (n : Int) := by omega
      have k5 : (bd.length : Int) < (bd.length : Int) + 1 := by omega
      clear a1 a2 HW2
      refine wp_region_tail [_, _, _, _, _, _, _, _, _, _, _, _, _, _, _, _, _, _, _, _, _, _, _, _, _, _] _ rfl mixed (by kernel_rfl) S1' ?_
      simp only [List.cons_append, List.nil_append]
      repeat (go_big_quiet_step (first | (go_at_call 111; with_reducible exact Kp.calls _ Cv.next (HPL.out _))))
      refine wpQuiet_nil ?_
      intro k
      have HK : Hid (Cv w w0 y t n (.slice (some ⟨pb, po, none⟩) ps.length pc) wv ps ws op N (mB ps (ws.length + 1) (on1 (lf op ws) N) B i j (m + 1)) g (lS ps (ws.length + 1) (on1 (lf op ws) N) i j m) gp (hd : Int) (.slice uo bd.length uc) bd k.W) := k.h
      have f0 := World.rowIs.frozen k.h.cu.rw hd
      have f1 := p2 k
      generalize k.W = W6 at HK f0 f1 ⊢
      clear k p0 p1 p2 p3 p4 p5 hne S1'
      have HW7 : Hid (Cu w w0 y t n (.slice (some ⟨pb, po, none⟩) ps.length pc) wv ps ws op N (mB ps (ws.length + 1) (on1 (lf op ws) N) B i j (m + 1)) g (lS ps (ws.length + 1) (on1 (lf op ws) N) i j (m + 1)) (W6.setCell ⟨g, hd, none⟩ (.int .u8 (xn : Int)))) := by
        have hgo : w.heap.size ≤ g := HK.out.cu.ge
        have hch := HC.out
        refine ⟨HK.out.cu.ch.other (Nat.le_trans hch.bel.size hgo) ?_ ?_ ?_ ?_ _, HK.out.cu.fm.more hgo _, hgo, ?_⟩
        · show y.q ≠ g; have := hch.ps_lt.1; omega
        · show y.bn ≠ g; have := hch.ps_lt.2.1; omega
        · show y.bb ≠ g; have := hch.ps_lt.2.2; omega
        · intro p hp; show y.bs p ≠ g; have := (hch.body p hp).lt; omega
        · refine (HK.out.cu.rw.set hd _).congr fun a ha => ?_
          rw [HLS.out]
          by_cases e : a = hd
          · subst e; rw [if_pos rfl, if_pos rfl, HXN.out]
          · rw [if_neg e, if_neg (by omega)]
      go_simp
      go_wp2_with fail
      go_roundw
      case rel => exact ⟨m + 1, by omega, by go_num, HW7.out⟩
      case measure => simp [intOf]; omega
    · obtain rfl : m = ps.length := by omega
      go_wp2_with fail
      go_ret
      exact ⟨g, by simp, hcu⟩
end Go.Proofs.Ytpfehghicaaghaa

namespace Go.Proofs.Ytpfehghicaaghaa
open Go.RowKit
open Cg

namespace Cg
/-- Heads are nonterminals. -/
def Hd (n : Nat) (ps : List Pd) : Prop := ∀ p ∈ ps, 0 ≤ p.1 ∧ p.1 < (n : Int)
theorem stm_out {n : Nat} {ps : List Pd} (h : Hd n ps) {K : Nat} {M : Sy → Nat → Nat → Nat} {a : Int} (ha : a < 0 ∨ (n : Int) ≤ a) {i j : Nat} : stm ps K M a i j = 0 := by
  unfold stm
  rw [sm_zero fun q hq => ?_]
  · rfl
  · have e : ps.getD q (0, []) = ps[q] := by rw [List.getD_eq_getElem?_getD, List.getElem?_eq_getElem hq]; rfl
    have := h _ (List.getElem_mem hq)
    rw [e, if_neg (by omega)]
theorem At.le2 {L : Int → Nat → Nat → Bool} {ps : List Pd} {K i0 j0 : Nat} {N : Tb} (h : At L ps K i0 j0 N) (a : Int) (i j : Nat) : N a i j ≤ 2 := by
  by_cases e : j < i ∨ K ≤ j
  · rw [h.low a i j e]; omega
  · by_cases e2 : Dn2 i0 j0 i j
    · rw [h.fix a i j e2 (by omega) (by omega)]; exact stm_le
    · by_cases e3 : i = i0 ∧ j = j0
      · rw [e3.1, e3.2]; exact Nat.le_trans (h.up a) stm_le
      · rw [h.new a i j e2 e3]; omega
/-- What the tables of the productions hold. -/
structure Bi (L : Int → Nat → Nat → Bool) (ps : List Pd) (K i0 j0 : Nat) (N : Tb) (B : Nat → Nat → Nat → Nat → Nat) : Prop where
  z : ∀ p i j, p < ps.length → i ≠ j → B p 0 i j = 0
  d : ∀ p k i j, p < ps.length → k ≤ (ps.getD p (0, [])).2.length → Dn2 i0 j0 i j → i ≤ j → j < K → B p k i j = vB ps K (on1 L N) p i j k
theorem vB_rnd {L : Int → Nat → Nat → Bool} (hL : TrL L) {ps : List Pd} {K i0 j0 : Nat} {N : Tb} (hN : ∀ a i j, j < i → N a i j = 0) (hij : i0 ≤ j0) {p i j k : Nat} (hd : Dn2 i0 j0 i j) : vB ps K (on1 L N) p i j k = vB ps K (on1 L (rnd ps K L i0 j0 N)) p i j k := by
  unfold vB
  have hb : ∀ a i j, j < i → rnd ps K L i0 j0 N a i j = 0 := fun a i j h => by
    unfold rnd; rw [if_neg (by omega)]; exact hN a i j h
  rw [mr_congr (on1_tri hL hN) (on1_tri hL hb) _ fun s a b ha hab hb2 _ => ?_]
  unfold on1
  split
  · unfold rnd
    rw [if_neg (by rcases hd with h | h <;> omega)]
  · rfl
theorem vB_zero {ps : List Pd} {K : Nat} {M : Sy → Nat → Nat → Nat} {p i j : Nat} : vB ps K M p i j 0 = if i = j then 1 else 0 := by
  unfold vB; rw [List.take_zero, mr]; split <;> rfl
theorem Bi.rnd {L : Int → Nat → Nat → Bool} (hL : TrL L) {ps : List Pd} {K i0 j0 : Nat} {N : Tb} {B : Nat → Nat → Nat → Nat → Nat} (h : Bi L ps K i0 j0 N B) (hN : ∀ a i j, j < i → N a i j = 0) (hij : i0 ≤ j0) : Bi L ps K i0 j0 (rnd ps K L i0 j0 N) (mB ps K (on1 L N) B i0 j0 ps.length) := by
  refine ⟨fun p i j hp hn => ?_, fun p k i j hp hk hd h1 h2 => ?_⟩
  · unfold mB
    split
    · rename_i e; rw [vB_zero, if_neg (by omega)]
    · exact h.z p i j hp hn
  · unfold mB
    rw [if_neg (by rcases hd with e | e <;> omega), h.d p k i j hp hk hd h1 h2]
    exact vB_rnd hL hN hij hd
theorem Bi.next {L : Int → Nat → Nat → Bool} {ps : List Pd} {K i0 j0 : Nat} {N : Tb} {B : Nat → Nat → Nat → Nat → Nat} (h : Bi L ps K i0 j0 N B) (hv : ∀ p k, p < ps.length → k ≤ (ps.getD p (0, [])).2.length → B p k i0 j0 = vB ps K (on1 L N) p i0 j0 k) : Bi L ps K i0 (j0 + 1) N B := by
  refine ⟨h.z, fun p k i j hp hk hd h1 h2 => ?_⟩
  by_cases e : i = i0 ∧ j = j0
  · rw [e.1, e.2]; exact hv p k hp hk
  · exact h.d p k i j hp hk (by rcases hd with e2 | e2; exact Or.inl e2; exact Or.inr ⟨e2.1, by omega⟩) h1 h2
theorem Bi.row {L : Int → Nat → Nat → Bool} {ps : List Pd} {K i0 : Nat} {N : Tb} {B : Nat → Nat → Nat → Nat → Nat} (h : Bi L ps K (i0 + 1) K N B) : Bi L ps K i0 i0 N B :=
  ⟨h.z, fun p k i j hp hk hd h1 h2 => h.d p k i j hp hk (by
    rcases hd with hd | hd
    · by_cases e : i = i0 + 1
      · exact Or.inr ⟨e, h2⟩
      · exact Or.inl (by omega)
    · omega) h1 h2⟩
/-- The first k nonterminals of a round. -/
def nk (ps : List Pd) (K : Nat) (L : Int → Nat → Nat → Bool) (i0 j0 : Nat) (N : Tb) (k : Nat) : Tb := fun a i j => if i = i0 ∧ j = j0 ∧ 0 ≤ a ∧ a < (k : Int) then stm ps K (on1 L N) a i j else N a i j
theorem nk_zero {ps : List Pd} {K : Nat} {L : Int → Nat → Nat → Bool} {i0 j0 : Nat} {N : Tb} : nk ps K L i0 j0 N 0 = N := by
  funext a i j; unfold nk; rw [if_neg (by omega)]
theorem nk_succ {ps : List Pd} {K : Nat} {L : Int → Nat → Nat → Bool} {i0 j0 : Nat} {N : Tb} {k : Nat} : updN (nk ps K L i0 j0 N k) k i0 j0 (stm ps K (on1 L N) (k : Int) i0 j0) = nk ps K L i0 j0 N (k + 1) := by
  funext a i j
  unfold updN nk
  by_cases e : i = i0 ∧ j = j0
  · obtain ⟨rfl, rfl⟩ := e
    by_cases e2 : a = (k : Int)
    · rw [if_pos ⟨e2, rfl, rfl⟩, if_pos ⟨rfl, rfl, by omega, by omega⟩, e2]
    · rw [if_neg (fun h => e2 h.1)]
      by_cases e3 : 0 ≤ a ∧ a < (k : Int)
      · rw [if_pos ⟨rfl, rfl, e3⟩, if_pos ⟨rfl, rfl, e3.1, by omega⟩]
      · rw [if_neg (fun h => e3 h.2.2), if_neg (by omega)]
  · rw [if_neg (fun h => e h.2), if_neg (fun h => e ⟨h.1, h.2.1⟩), if_neg (fun h => e ⟨h.1, h.2.1⟩)]
theorem nk_same {ps : List Pd} {K : Nat} {L : Int → Nat → Nat → Bool} {i0 j0 : Nat} {N : Tb} {k : Nat} (h : N (k : Int) i0 j0 = stm ps K (on1 L N) (k : Int) i0 j0) : nk ps K L i0 j0 N (k + 1) = nk ps K L i0 j0 N k := by
  funext a i j
  unfold nk
  by_cases e : i = i0 ∧ j = j0
  · obtain ⟨rfl, rfl⟩ := e
    by_cases e2 : a = (k : Int)
    · rw [if_pos ⟨rfl, rfl, by omega, by omega⟩, if_neg (by omega), e2, h]
    · by_cases e3 : 0 ≤ a ∧ a < (k : Int)
      · rw [if_pos ⟨rfl, rfl, e3.1, by omega⟩, if_pos ⟨rfl, rfl, e3⟩]
      · rw [if_neg (by omega), if_neg (fun h => e3 h.2.2)]
  · rw [if_neg (fun h => e ⟨h.1, h.2.1⟩), if_neg (fun h => e ⟨h.1, h.2.1⟩)]
theorem nk_end {n : Nat} {ps : List Pd} (hd : Hd n ps) {K : Nat} {L : Int → Nat → Nat → Bool} {i0 j0 : Nat} {N : Tb} (h : At L ps K i0 j0 N) : nk ps K L i0 j0 N n = rnd ps K L i0 j0 N := by
  funext a i j
  unfold nk rnd
  by_cases e : i = i0 ∧ j = j0
  · obtain ⟨rfl, rfl⟩ := e
    by_cases e2 : 0 ≤ a ∧ a < (n : Int)
    · rw [if_pos ⟨rfl, rfl, e2⟩, if_pos ⟨rfl, rfl⟩]
    · rw [if_neg (fun h => e2 h.2.2), if_pos ⟨rfl, rfl⟩]
      have h1 := stm_out hd (K := K) (M := on1 L N) (a := a) (i := i) (j := j) (by omega)
      have h2 := h.up a
      omega
  · rw [if_neg (fun h => e ⟨h.1, h.2.1⟩), if_neg e]
/-- How far a piece's numbers may still rise. -/
def gap (n : Nat) (N : Tb) (i j : Nat) : Nat := sm n fun a => 2 - N (a : Int) i j
theorem gap_less {n : Nat} {ps : List Pd} {K : Nat} {L : Int → Nat → Nat → Bool} {i0 j0 : Nat} {N : Tb} (h : At L ps K i0 j0 N) {a : Nat} (ha : a < n) (hne : N (a : Int) i0 j0 ≠ stm ps K (on1 L N) (a : Int) i0 j0) : gap n (rnd ps K L i0 j0 N) i0 j0 < gap n N i0 j0 := by
  have hr : ∀ b : Int, rnd ps K L i0 j0 N b i0 j0 = stm ps K (on1 L N) b i0 j0 := fun b => by unfold rnd; rw [if_pos ⟨rfl, rfl⟩]
  have key : ∀ m, m ≤ n → sm m (fun a => 2 - rnd ps K L i0 j0 N (a : Int) i0 j0) + (if a < m then 1 else 0) ≤ sm m fun a => 2 - N (a : Int) i0 j0 := by
    intro m
    induction m with
    | zero => intro _; simp [sm]
    | succ m ih =>
      intro hm
      have := ih (by omega)
      rw [sm, sm]
      have h1 := h.up (m : Int)
      have h2 := stm_le (ps := ps) (K := K) (M := on1 L N) (a := (m : Int)) (i := i0) (j := j0)
      rw [hr]
      by_cases e : a = m
      · subst e
        rw [if_neg (by omega)] at this
        rw [if_pos (by omega)]
        omega
      · by_cases e2 : a < m
        · rw [if_pos e2] at this; rw [if_pos (by omega)]; omega
        · rw [if_neg e2] at this; rw [if_neg (by omega)]; omega
  have := key n (Nat.le_refl _)
  rw [if_pos ha] at this
  unfold gap; omega
end Cg
theorem Rc.hd {w0 : World} {t : Int} {n : Nat} {pv wv : Value} {ps : List Pd} {ws : List Int} (rc : Rc w0 t n pv wv ps ws) : Hd n ps := fun p hp => (rc.okl p hp).2
/-- What settle holds. -/
structure Ce (w w0 : World) (y : Lay) (t : Int) (n : Nat) (pv wv : Value) (ps : List Pd) (ws : List Int) (op : Bool) (N : Tb) (B : Nat → Nat → Nat → Nat → Nat) (g : Nat) (l : Int → Nat) (W : World) : Prop where
  ch : Ch w0 y t n pv wv ps ws op N B W
  fm : Fm (fun k => k = y.bn ∨ ∃ p, p < ps.length ∧ k = y.bs p) w W
  gn : g ≠ y.bn
  rw : W.rowIs g 5 n (fun a => .int .u8 ((l (a : Int) : Nat) : Int))
/-- .. between two rounds. -/
structure Cr (w w0 : World) (y : Lay) (t : Int) (n : Nat) (pv wv : Value) (ps : List Pd) (ws : List Int) (op : Bool) (i j : Nat) (b : Bool) (N : Tb) (B : Nat → Nat → Nat → Nat → Nat) (W : World) : Prop where
  ch : Ch w0 y t n pv wv ps ws op N B W
  fm : Fm (fun k => k = y.bn ∨ ∃ p, p < ps.length ∧ k = y.bs p) w W
  at0 : At (lf op ws) ps (ws.length + 1) i j N
  bi : Bi (lf op ws) ps (ws.length + 1) i j N B
  fin : b = false → (∀ a, N a i j = stm ps (ws.length + 1) (on1 (lf op ws) N) a i j) ∧ ∀ p k, p < ps.length → k ≤ (ps.getD p (0, [])).2.length → B p k i j = vB ps (ws.length + 1) (on1 (lf op ws) N) p i j k
/-- .. behind it. -/
def SettleP (w w0 : World) (y : Lay) (t : Int) (n : Nat) (pv wv : Value) (ps : List Pd) (ws : List Int) (op : Bool) (i j : Nat) (W : World) : Prop := ∃ N B, Ch w0 y t n pv wv ps ws op N B W ∧ Fm (fun k => k = y.bn ∨ ∃ p, p < ps.length ∧ k = y.bs p) w W ∧ At (lf op ws) ps (ws.length + 1) i (j + 1) N ∧ Bi (lf op ws) ps (ws.length + 1) i (j + 1) N B
def cellN (W : World) (a : Addr) : Nat := match W.cell? a with | some (.int _ v) => v.toNat | _ => 0
def gapW (n bn i j : Nat) (W : World) : Nat := sm n fun a => 2 - cellN W ⟨bn, a * 441 + i * 21 + j, none⟩
theorem gapW_eq {w0 : World} {y : Lay} {t : Int} {n : Nat} {pv wv : Value} {ps : List Pd} {ws : List Int} {op : Bool} {N : Tb} {B : Nat → Nat → Nat → Nat → Nat} {W : World} (h : Ch w0 y t n pv wv ps ws op N B W) {i j : Nat} (hi : i < 21) (hj : j < 21) : gapW n y.bn i j W = gap n N i j := by
  unfold gapW gap
  refine sm_congr fun a ha => ?_
  unfold cellN
  rw [h.ncell ha hi hj]
  simp
def bitOfV (v : Value) : Nat := match v with | .bool true => 1 | _ => 0

set_option maxHeartbeats 8000000 in
set_option maxRecDepth 20000 in
theorem settle_any2 (w0 : World) (y : Lay) (t : Int) (n : Nat) (pv wv : Value) (ps : List Pd) (ws : List Int) (op : Bool) (N : Tb) (B : Nat → Nat → Nat → Nat → Nat) (w : World) (rc : Rc w0 t n pv wv ps ws) (h : Ch w0 y t n pv wv ps ws op N B w) (i j : Nat) (hij : i ≤ j) (hj : j ≤ ws.length)
    (ha : At (lf op ws) ps (ws.length + 1) i j N) (hb : Bi (lf op ws) ps (ws.length + 1) i j N B) :
    Calls Try.prog 66 #[.pointer (some ⟨y.q, 0, none⟩), .int .i64 (i : Int), .int .i64 (j : Int)] w fun e w' => e = .returned (.tuple #[]) ∧ SettleP w w0 y t n pv wv ps ws op i j w' := by
  have hwl := rc.wl
  have hnl := rc.nl
  have HRC : Hid (Rc w0 t n pv wv ps ws) := rc
  have HR0 : Hid (Cr w w0 y t n pv wv ps ws op i j true N B w) := ⟨h, Fm.refl _ _, ha, hb, fun e => (by cases e)⟩
  clear h ha hb rc
  go_enter Try.func66, Try.ntmps66
  go_wp2_with fail
  go_loopw [6] (fun v wr => ∃ b N B, v = .bool b ∧ Hid (Cr w w0 y t n pv wv ps ws op i j b N B wr)) (fun v wr => gapW n y.bn i j wr + bitOfV v)
  case atStart => exact ⟨true, N, B, rfl, HR0⟩
  case round =>
    obtain ⟨b, N1, B1, rfl, HR⟩ := hrel
    cases b with
    | false =>
      obtain ⟨f1, f2⟩ := HR.out.fin rfl
      have HE : Hid (SettleP w w0 y t n pv wv ps ws op i j wr) := ⟨N1, B1, HR.out.ch, HR.out.fm, HR.out.at0.next f1, HR.out.bi.next f2⟩
      clear f1 f2 HR
      go_wp2_with fail
      refine bodyPost_end (v := .tuple #[]) (by simp [results, Try.results66, go_sem]) rfl ⟨rfl, HE.out⟩
    | true =>
      have hcall := sums_any w0 y t n pv wv ps ws op N1 B1 wr HRC.out HR.out.ch HR.out.at0.le2 HR.out.at0.back i j hij hj (by
        by_cases e : i = j
        · exact Or.inl e
        · exact Or.inr fun p hp => HR.out.bi.z p i j hp e) (fun p k c hp hk h1 h2 => HR.out.bi.d p k i c hp hk (Or.inr ⟨rfl, h2⟩) h1 (by omega))
      have HGW : Hid (gapW n y.bn i j wr = gap n N1 i j) := gapW_eq HR.out.ch (by omega) (by omega)
      obtain ⟨gw, HGG⟩ : ∃ gw, Hid (gapW n y.bn i j wr = gw) := ⟨_, (rfl : gapW n y.bn i j wr = _)⟩
      rw [HGG.out] at HGW ⊢
      clear HGG
      go_wp2_with fail
      refine hcall.mono ?_
      rintro _ w2 ⟨g, rfl, hcu⟩
      have HE0 : Hid (Ce w w0 y t n pv wv ps ws op (nk ps (ws.length + 1) (lf op ws) i j N1 0) (mB ps (ws.length + 1) (on1 (lf op ws) N1) B1 i j ps.length) g (fun a => stm ps (ws.length + 1) (on1 (lf op ws) N1) a i j) w2) := by
        refine ⟨by rw [nk_zero]; exact hcu.ch, HR.out.fm.trans hcu.fm fun q _ e => Or.inr e, fun e => ?_, hcu.rw⟩
        have h1 := hcu.ge
        have h2 := HR.out.ch.ps_lt.2.1
        omega
      clear hcall hcu
      obtain ⟨B2, HB2⟩ : ∃ B2, Hid (mB ps (ws.length + 1) (on1 (lf op ws) N1) B1 i j ps.length = B2) := ⟨_, (rfl : mB ps (ws.length + 1) (on1 (lf op ws) N1) B1 i j ps.length = _)⟩
      rw [HB2.out] at HE0
      go_wp2_with fail
      go_loopw [6, 15] (fun v q W => ∃ (b : Bool) (k : Nat), k ≤ n ∧ q = .int .i64 (k : Int) ∧ v = .bool b ∧ Hid (b = true ↔ ∃ a : Nat, a < k ∧ N1 (a : Int) i j ≠ stm ps (ws.length + 1) (on1 (lf op ws) N1) (a : Int) i j) ∧ Hid (Ce w w0 y t n pv wv ps ws op (nk ps (ws.length + 1) (lf op ws) i j N1 k) B2 g (fun a => stm ps (ws.length + 1) (on1 (lf op ws) N1) a i j) W)) (fun _ q _ => n - (intOf q).toNat)
      case atStart => exact ⟨false, 0, by omega, rfl, rfl, ⟨fun e => (by cases e), fun ⟨a, h, _⟩ => (by omega)⟩, HE0⟩
      case round =>
        obtain ⟨b, k, hk, rfl, rfl, HI, HE⟩ := hrel
        by_cases hlt : k < n
        · have c0 := HE.out.ch.ncell hlt (i := i) (j := j) (by omega) (by omega)
          have hnk : nk ps (ws.length + 1) (lf op ws) i j N1 k (k : Int) i j = N1 (k : Int) i j := by unfold nk; rw [if_neg (by omega)]
          rw [hnk] at c0
          have c1 := World.rowIs.frozen HE.out.ch.nons (k * 441 + i * 21 + j)
          have c2 : wr.cell? ⟨g, k, none⟩ = _ := HE.out.rw.cell hlt
          have c3 : wr.cell? ⟨y.q, 5, none⟩ = some (.slice (some ⟨y.bn, 0, none⟩) n n) := HE.out.ch.bcell 5
          have HSM : Hid (N1 (k : Int) i j = stm ps (ws.length + 1) (on1 (lf op ws) N1) (k : Int) i j → nk ps (ws.length + 1) (lf op ws) i j N1 (k + 1) = nk ps (ws.length + 1) (lf op ws) i j N1 k) := nk_same
          have HST : Hid (Ce w w0 y t n pv wv ps ws op (nk ps (ws.length + 1) (lf op ws) i j N1 (k + 1)) B2 g (fun a => stm ps (ws.length + 1) (on1 (lf op ws) N1) a i j) (wr.setCell ⟨y.bn, k * 441 + i * 21 + j, none⟩ (.int .u8 ((stm ps (ws.length + 1) (on1 (lf op ws) N1) (k : Int) i j : Nat) : Int)))) := by
            refine ⟨?_, HE.out.fm.trans (Fm.set (X := fun k => k = y.bn) _ rfl) fun q _ e => Or.inl e, HE.out.gn, HE.out.rw.setOther HE.out.gn _⟩
            have := HE.out.ch.setN (a := k) (i := i) (j := j) (by omega) (by omega) (stm ps (ws.length + 1) (on1 (lf op ws) N1) (k : Int) i j)
            rw [nk_succ] at this; exact this
          have HIN : Hid ((∃ a : Nat, a < k + 1 ∧ N1 (a : Int) i j ≠ stm ps (ws.length + 1) (on1 (lf op ws) N1) (a : Int) i j) ↔ b = true ∨ N1 (k : Int) i j ≠ stm ps (ws.length + 1) (on1 (lf op ws) N1) (k : Int) i j) := by
            constructor
            · rintro ⟨a, h1, h2⟩
              by_cases e : a = k
              · subst e; exact Or.inr h2
              · exact Or.inl (HI.out.2 ⟨a, by omega, h2⟩)
            · rintro (h1 | h1)
              · obtain ⟨a, h2, h3⟩ := HI.out.1 h1; exact ⟨a, by omega, h3⟩
              · exact ⟨k, by omega, h1⟩
          obtain ⟨xs, HXS⟩ : ∃ xs, Hid (stm ps (ws.length + 1) (on1 (lf op ws) N1) (k : Int) i j = xs) := ⟨_, (rfl : stm ps (ws.length + 1) (on1 (lf op ws) N1) (k : Int) i j = _)⟩
          obtain ⟨xo, HXO⟩ : ∃ xo, Hid (N1 (k : Int) i j = xo) := ⟨_, (rfl : N1 (k : Int) i j = _)⟩
          rw [HXS.out] at c2 HST HIN HSM
          rw [HXO.out] at c0 HIN HSM
          have k1 : (k : Int) < (n : Int) := by omega
          have k2 : (i : Int) < 21 := by omega
          have k3 : (j : Int) < 21 := by omega
          by_cases hx : xo = xs
          · have hb0 : ((xo : Int) != (xs : Int)) = false := by simp; omega
            have HE1 : Hid (Ce w w0 y t n pv wv ps ws op (nk ps (ws.length + 1) (lf op ws) i j N1 (k + 1)) B2 g (fun a => stm ps (ws.length + 1) (on1 (lf op ws) N1) a i j) wr) := by
              show Ce _ _ _ _ _ _ _ _ _ _ _ _ _ _ _
              rw [HSM.out hx]; exact HE.out
            have HIN2 : Hid (b = true ↔ ∃ a : Nat, a < k + 1 ∧ N1 (a : Int) i j ≠ stm ps (ws.length + 1) (on1 (lf op ws) N1) (a : Int) i j) := ⟨fun e => HIN.out.2 (Or.inl e), fun e => (HIN.out.1 e).resolve_right fun e2 => e2 hx⟩
            clear hx
            go_wp2_with fail
            go_roundw
            case rel => exact ⟨b, k + 1, by omega, by go_num, rfl, HIN2, HE1⟩
            case measure => simp [intOf]; omega
          · have hb0 : ((xo : Int) != (xs : Int)) = true := by simp; omega
            have HIN2 : Hid (true = true ↔ ∃ a : Nat, a < k + 1 ∧ N1 (a : Int) i j ≠ stm ps (ws.length + 1) (on1 (lf op ws) N1) (a : Int) i j) := ⟨fun _ => HIN.out.2 (Or.inr hx), fun _ => rfl⟩
            clear hx
            go_wp2_with fail
            go_roundw
            case rel => exact ⟨true, k + 1, by omega, by go_num, rfl, HIN2, HST⟩
            case measure => simp [intOf]; omega
        · obtain rfl : k = n := by omega
          have hne := nk_end HRC.out.hd HR.out.at0
          have HCR : Hid (Cr w w0 y t k pv wv ps ws op i j b (rnd ps (ws.length + 1) (lf op ws) i j N1) B2 wr) := by
            have h1 := HE.out.ch
            rw [hne] at h1
            refine ⟨h1, HE.out.fm, HR.out.at0.rnd (lf_tri op ws) hij (by omega), ?_, fun e => ?_⟩
            · rw [← HB2.out]; exact HR.out.bi.rnd (lf_tri op ws) HR.out.at0.back hij
            · have hall : ∀ a : Int, N1 a i j = stm ps (ws.length + 1) (on1 (lf op ws) N1) a i j := fun a => by
                by_cases e2 : a < 0 ∨ (k : Int) ≤ a
                · have h2 := stm_out HRC.out.hd (K := ws.length + 1) (M := on1 (lf op ws) N1) (i := i) (j := j) e2
                  have h3 := HR.out.at0.up a
                  omega
                · obtain ⟨a', rfl⟩ : ∃ a' : Nat, a = (a' : Int) := ⟨a.toNat, by omega⟩
                  exact Classical.byContradiction fun e3 => by
                    have := HI.out.2 ⟨a', by omega, e3⟩
                    rw [e] at this; cases this
              have hsame : rnd ps (ws.length + 1) (lf op ws) i j N1 = N1 := by
                funext a i' j'
                unfold rnd
                split
                · rename_i e2; rw [e2.1, e2.2]; exact (hall a).symm
                · rfl
              rw [hsame]
              refine ⟨hall, fun p q hp hq => ?_⟩
              rw [← HB2.out]
              unfold mB
              rw [if_pos ⟨hp, rfl, rfl, hq⟩]
          have HMU : Hid (gapW k y.bn i j wr + bitOfV (.bool b) < gw + 1) := by
            show _ < _
            rw [gapW_eq HCR.out.ch (by omega) (by omega), HGW.out]
            cases b with
            | true =>
              obtain ⟨a, h1, h2⟩ := HI.out.1 rfl
              have := gap_less HR.out.at0 h1 h2
              simp [bitOfV]; omega
            | false =>
              have hall := (HCR.out.fin rfl).1
              have : gap k (rnd ps (ws.length + 1) (lf op ws) i j N1) i j ≤ gap k N1 i j := by
                unfold gap
                refine sm_mono2 fun a _ => ?_
                have := HR.out.at0.le_rnd (a : Int) i j
                omega
              simp [bitOfV]; omega
          clear hne
          go_wp2_with fail
          go_roundw
          case rel => exact ⟨b, _, _, rfl, HCR⟩
          case measure => exact HMU.out
end Go.Proofs.Ytpfehghicaaghaa
