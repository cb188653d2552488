/-
  The contract of chart.countBody.
-/
import Derived.Test.YtpbnnmfjahckmaaChOf
namespace Go.Proofs.Ytpbnnmfjahckmaa
open Go.RowKit
open Cg

def updB (B : Nat → Nat → Nat → Nat → Nat) (p k i j x : Nat) : Nat → Nat → Nat → Nat → Nat := fun p' k' i' j' => if p' = p ∧ k' = k ∧ i' = i ∧ j' = j then x else B p' k' i' j'
def updN (N : TbN) (a i j x : Nat) : TbN := fun a' i' j' => if a' = (a : Int) ∧ i' = i ∧ j' = j then x else N a' i' j'
def stB (B : Nat → Nat → Nat → Nat → Nat) (p i0 j0 m : Nat) (v : Nat → Nat) : Nat → Nat → Nat → Nat → Nat := fun p' k i j => if p' = p ∧ i = i0 ∧ j = j0 ∧ k ≤ m then v k else B p' k i j
theorem updB_stB (B : Nat → Nat → Nat → Nat → Nat) (p i0 j0 m : Nat) (v : Nat → Nat) : updB (stB B p i0 j0 m v) p (m + 1) i0 j0 (v (m + 1)) = stB B p i0 j0 (m + 1) v := by
  funext p' k i j
  unfold updB stB
  by_cases h1 : p' = p ∧ i = i0 ∧ j = j0
  · obtain ⟨rfl, rfl, rfl⟩ := h1
    by_cases h2 : k = m + 1
    · subst h2; simp
    · by_cases h3 : k ≤ m
      · rw [if_neg (by simp [h2]), if_pos ⟨rfl, rfl, rfl, h3⟩, if_pos ⟨rfl, rfl, rfl, by omega⟩]
      · rw [if_neg (by simp [h2]), if_neg (by simp [h3]), if_neg (by rintro ⟨-, -, -, h⟩; omega)]
  · rw [if_neg (fun h => h1 ⟨h.1, h.2.2.1, h.2.2.2⟩), if_neg (fun h => h1 ⟨h.1, h.2.1, h.2.2.1⟩), if_neg (fun h => h1 ⟨h.1, h.2.1, h.2.2.1⟩)]
theorem stB_zero {B : Nat → Nat → Nat → Nat → Nat} {p i0 j0 : Nat} {v : Nat → Nat} (h : B p 0 i0 j0 = v 0) : stB B p i0 j0 0 v = B := by
  funext p' k i j
  unfold stB
  split
  · rename_i e
    obtain ⟨rfl, rfl, rfl, e⟩ := e
    rw [show k = 0 by omega, h]
  · rfl
theorem updB_zero {B : Nat → Nat → Nat → Nat → Nat} {p i0 j0 : Nat} {v : Nat → Nat} : updB B p 0 i0 j0 (v 0) = stB B p i0 j0 0 v := by
  funext p' k i j
  unfold updB stB
  by_cases h : p' = p ∧ k = 0 ∧ i = i0 ∧ j = j0
  · rw [if_pos h, if_pos ⟨h.1, h.2.2.1, h.2.2.2, by omega⟩, h.2.1]
  · rw [if_neg h, if_neg (fun e => h ⟨e.1, by omega, e.2.1, e.2.2.1⟩)]
section
variable {w0 : World} {y : Lay} {t : Int} {n : Nat} {pv wv : Value} {ps : List Pd} {ws : List Int} {op : Bool} {N : TbN} {B : Nat → Nat → Nat → Nat → Nat} {W : World}
theorem Ch.setB (h : Ch w0 y t n pv wv ps ws op N B W) {p k i j : Nat} (hp : p < ps.length) (hi : i < 21) (hj : j < 21) (x : Nat) : Ch w0 y t n pv wv ps ws op N (updB B p k i j x) (W.setCell ⟨y.bs p, k * 441 + i * 21 + j, none⟩ (.int .u8 (x : Int))) := by
  obtain ⟨q1, q2, q3⟩ := h.qs p hp
  refine ⟨?_, ?_, h.nons.setOther (fun e => q2 e.symm) _, h.bods.setOther (fun e => q3 e.symm) _, fun p' hp' => ?_, h.oq, h.on, h.ob, h.os, h.qn, h.qb, h.nb, h.qs, h.ss⟩
  · have hf : Fm (fun k => k = y.bs p) W (W.setCell ⟨y.bs p, k * 441 + i * 21 + j, none⟩ (.int .u8 (x : Int))) := Fm.set _ rfl
    exact h.bel.trans (hf.below h.bel.size fun k e => by rw [e]; exact h.os p hp)
  · rw [Go.Deep.blk_setCell_other _ _ _ _ (fun e => q1 e.symm)]; exact h.box
  · by_cases e : p' = p
    · subst e
      refine ((h.body p' hp').set (k * 441 + i * 21 + j) _).congr fun c hc => ?_
      obtain ⟨e1, e2, e3⟩ := at_cell (a := k) hi hj
      unfold bf updB
      by_cases e : c = k * 441 + i * 21 + j
      · rw [if_pos e, e, e1, e2, e3, if_pos ⟨rfl, rfl, rfl, rfl⟩]
      · rw [if_neg e, if_neg]
        rintro ⟨-, f1, f2, f3⟩
        exact e (cell_at.2 ⟨by rw [f1, e1], by rw [f2, e2], by rw [f3, e3]⟩)
    · have e2 : updB B p k i j x p' = B p' := by
        funext k' i' j'; unfold updB; rw [if_neg (fun h => e h.1)]
      rw [e2]
      exact (h.body p' hp').setOther (fun e' => e (h.ss _ _ hp' hp e')) _
theorem Ch.setN (h : Ch w0 y t n pv wv ps ws op N B W) {a i j : Nat} (hi : i < 21) (hj : j < 21) (x : Nat) : Ch w0 y t n pv wv ps ws op (updN N a i j x) B (W.setCell ⟨y.bn, a * 441 + i * 21 + j, none⟩ (.int .u8 (x : Int))) := by
  refine ⟨?_, ?_, ?_, h.bods.setOther (fun e => h.nb e.symm) _, fun p' hp' => (h.body p' hp').setOther (h.qs p' hp').2.1 _, h.oq, h.on, h.ob, h.os, h.qn, h.qb, h.nb, h.qs, h.ss⟩
  · have hf : Fm (fun k => k = y.bn) W (W.setCell ⟨y.bn, a * 441 + i * 21 + j, none⟩ (.int .u8 (x : Int))) := Fm.set _ rfl
    exact h.bel.trans (hf.below h.bel.size fun k e => by rw [e]; exact h.on)
  · rw [Go.Deep.blk_setCell_other _ _ _ _ h.qn]; exact h.box
  · refine (h.nons.set (a * 441 + i * 21 + j) _).congr fun c hc => ?_
    obtain ⟨e1, e2, e3⟩ := at_cell (a := a) hi hj
    unfold nf updN
    by_cases e : c = a * 441 + i * 21 + j
    · rw [if_pos e, e, e1, e2, e3, if_pos ⟨rfl, rfl, rfl⟩]
    · rw [if_neg e]
      have : ¬ (((c / 441 : Nat) : Int) = (a : Int) ∧ c % 441 / 21 = i ∧ c % 21 = j) := by
        rintro ⟨f1, f2, f3⟩
        exact e (cell_at.2 ⟨by rw [e1]; omega, by rw [f2, e2], by rw [f3, e3]⟩)
      rw [if_neg this]
end
/-- The numbers of Kids' lists over a piece. -/
def vB (ps : List Pd) (K : Nat) (M : Sy → Nat → Nat → Nat) (p i j k : Nat) : Nat := min 2 (mr K M ((ps.getD p (0, [])).2.take k) i j)
theorem min_add_mul (x a b : Nat) : min 2 (min 2 x + min 2 a * b) = min 2 (x + a * b) := by
  have := min_mul a b
  omega
/-- Up to a cut. -/
def pB (ps : List Pd) (K : Nat) (M : Sy → Nat → Nat → Nat) (p i j k c : Nat) : Nat := min 2 (sm c fun x => mr K M ((ps.getD p (0, [])).2.take k) i x * M ((ps.getD p (0, [])).2.getD k (0, 0)) x j)
theorem pB_zero {ps : List Pd} {K : Nat} {M : Sy → Nat → Nat → Nat} (h : Tri M) {p i j k : Nat} : pB ps K M p i j k i = 0 := by
  unfold pB
  rw [sm_zero fun x hx => by rw [mr_tri h _ hx, Nat.zero_mul]]
  rfl
theorem pB_succ {ps : List Pd} {K : Nat} {M : Sy → Nat → Nat → Nat} {p i j k c : Nat} : min 2 (pB ps K M p i j k c + vB ps K M p i c k * M ((ps.getD p (0, [])).2.getD k (0, 0)) c j) = pB ps K M p i j k (c + 1) := by
  unfold pB vB
  rw [min_add_mul, sm]
theorem pB_end {ps : List Pd} {K : Nat} {M : Sy → Nat → Nat → Nat} (h : Tri M) {p i j k : Nat} (hi : i < K) (hj : j < K) (hk : k < (ps.getD p (0, [])).2.length) : pB ps K M p i j k (j + 1) = vB ps K M p i j (k + 1) := by
  unfold pB vB
  generalize hb : (ps.getD p (0, [])).2 = b at hk ⊢
  have e : b.take (k + 1) = b.take k ++ [b.getD k (0, 0)] := by
    rw [List.take_succ_eq_append_getElem hk, List.getD_eq_getElem?_getD, List.getElem?_eq_getElem hk]; rfl
  rw [e, mr_snoc _ _ hi hj]
  congr 1
  have key : ∀ z, sm (j + 1 + z) (fun x => mr K M (b.take k) i x * M (b.getD k (0, 0)) x j) = sm (j + 1) fun x => mr K M (b.take k) i x * M (b.getD k (0, 0)) x j := by
    intro z
    induction z with
    | zero => rfl
    | succ z ih => rw [← Nat.add_assoc, sm, ih, h _ _ _ (by omega), Nat.mul_zero, Nat.add_zero]
  have := key (K - (j + 1))
  rw [show j + 1 + (K - (j + 1)) = K by omega] at this
  exact this.symm
theorem pB_le {ps : List Pd} {K : Nat} {M : Sy → Nat → Nat → Nat} {p i j k c : Nat} : pB ps K M p i j k c ≤ 2 := Nat.min_le_left _ _
theorem vB_le {ps : List Pd} {K : Nat} {M : Sy → Nat → Nat → Nat} {p i j k : Nat} : vB ps K M p i j k ≤ 2 := Nat.min_le_left _ _

theorem Syms.cell {w : World} {ao : Option Addr} {k c : Nat} {l : List Sy} (h : Syms w (.slice ao k c) l) {i : Nat} (hi : i < l.length) : ∃ b o, ao = some ⟨b, o, none⟩ ∧ b < w.heap.size ∧ w.cell? ⟨b, o + i * 2, none⟩ = some (.int .i64 l[i].1) ∧ w.cell? ⟨b, o + i * 2 + 1, none⟩ = some (.int .i64 l[i].2) := by
  obtain ⟨ao', cap, hv, hm, h | ⟨b, o, h1, h2, h3⟩⟩ := h
  · subst h; simp at hi
  · injection hv with e1 e2 e3
    subst e1
    exact ⟨b, o, h1, h2, (h3 i hi).1, (h3 i hi).2⟩
/-- What countBody holds. -/
structure Cb (w w0 : World) (y : Lay) (t : Int) (n : Nat) (pv wv : Value) (ps : List Pd) (ws : List Int) (op : Bool) (N : TbN) (B : Nat → Nat → Nat → Nat → Nat) (p : Nat) (W : World) : Prop where
  ch : Ch w0 y t n pv wv ps ws op N B W
  fm : Fm (fun k => k = y.bs p) w W
theorem Cb.next {w w0 : World} {y : Lay} {t : Int} {n : Nat} {pv wv : Value} {ps : List Pd} {ws : List Int} {op : Bool} {N : TbN} {B : Nat → Nat → Nat → Nat → Nat} {p : Nat} {W W' : World} (h : Cb w w0 y t n pv wv ps ws op N B p W) (hb : Below W.heap.size W W') : Cb w w0 y t n pv wv ps ws op N B p W' :=
  ⟨h.ch.next hb, h.fm.trans (Fm.of hb) fun _ _ h => h⟩
structure CsQ (w w0 : World) (y : Lay) (t : Int) (n : Nat) (pv wv : Value) (ps : List Pd) (ws : List Int) (op : Bool) (N : TbN) (B : Nat → Nat → Nat → Nat → Nat) (p g : Nat) (s0 s1 : Int) (W : World) : Prop where
  cb : Cb w w0 y t n pv wv ps ws op N B p W
  b2 : B2 W g s0 s1
theorem CsQ.next {w w0 : World} {y : Lay} {t : Int} {n : Nat} {pv wv : Value} {ps : List Pd} {ws : List Int} {op : Bool} {N : TbN} {B : Nat → Nat → Nat → Nat → Nat} {p g : Nat} {s0 s1 : Int} (W W' : World) (h : CsQ w w0 y t n pv wv ps ws op N B p g s0 s1 W) (hb : Below W.heap.size W W') : CsQ w w0 y t n pv wv ps ws op N B p g s0 s1 W' := ⟨h.cb.next hb, h.b2.next hb⟩
theorem Rc.at {w0 : World} {t : Int} {n : Nat} {pv wv : Value} {ps : List Pd} {ws : List Int} (rc : Rc w0 t n pv wv ps ws) {p : Nat} (hp : p < ps.length) : OkL t n (ps.getD p (0, [])).2 ∧ (ps.getD p (0, [])).2.length ≤ 8 ∧ 0 ≤ (ps.getD p (0, [])).1 ∧ (ps.getD p (0, [])).1 < (n : Int) := by
  have e : ps.getD p (0, []) = ps[p] := by rw [List.getD_eq_getElem?_getD, List.getElem?_eq_getElem hp]; rfl
  rw [e]
  obtain ⟨h1, h2, h3⟩ := rc.okl _ (List.getElem_mem hp)
  exact ⟨h1, rc.bl _ (List.getElem_mem hp), h2, h3⟩
theorem Rc.cell {w0 : World} {t : Int} {n : Nat} {ao : Option Addr} {m c : Nat} {wv : Value} {ps : List Pd} {ws : List Int} (rc : Rc w0 t n (.slice ao m c) wv ps ws) {p : Nat} (hp : p < ps.length) : ∃ b o uo uc, ao = some ⟨b, o, none⟩ ∧ b < w0.heap.size ∧ w0.cell? ⟨b, o + p * 2, none⟩ = some (.int .i64 (ps.getD p (0, [])).1) ∧ w0.cell? ⟨b, o + p * 2 + 1, none⟩ = some (.slice uo (ps.getD p (0, [])).2.length uc) ∧ Syms w0 (.slice uo (ps.getD p (0, [])).2.length uc) (ps.getD p (0, [])).2 := by
  have e : ps.getD p (0, []) = ps[p] := by rw [List.getD_eq_getElem?_getD, List.getElem?_eq_getElem hp]; rfl
  obtain ⟨ao', cap, hv, hm, h | ⟨b, o, h1, h2, h3⟩⟩ := rc.pds
  · subst h; simp at hp
  · injection hv with e1 e2 e3
    subst e1
    obtain ⟨c0, u, c1, hs⟩ := h3 p hp
    obtain ⟨uo, uc, rfl, hx⟩ := id hs
    rw [e]
    exact ⟨b, o, uo, uc, h1, h2, c0, c1, hs⟩

set_option maxHeartbeats 8000000 in
set_option maxRecDepth 20000 in
theorem countBody_any (w0 : World) (y : Lay) (t : Int) (n : Nat) (pv wv : Value) (ps : List Pd) (ws : List Int) (op : Bool) (N : TbN) (B : Nat → Nat → Nat → Nat → Nat) (w : World) (rc : Rc w0 t n pv wv ps ws) (h : Ch w0 y t n pv wv ps ws op N B w) (hN : ∀ a i j, N a i j ≤ 2) (hlow : ∀ a i j, j < i → N a i j = 0) (p i j : Nat) (hp : p < ps.length) (hij : i ≤ j) (hj : j ≤ ws.length)
    (h0 : i = j ∨ B p 0 i j = 0) (hB : ∀ k c, k ≤ (ps.getD p (0, [])).2.length → i ≤ c → c < j → B p k i c = vB ps (ws.length + 1) (on1 (lf op ws) N) p i c k) :
    Calls Try.prog 89 #[.pointer (some ⟨y.q, 0, none⟩), .int .i64 (p : Int), .int .i64 (i : Int), .int .i64 (j : Int)] w fun e w' => e = .returned (.tuple #[]) ∧ Cb w w0 y t n pv wv ps ws op N (stB B p i j (ps.getD p (0, [])).2.length (vB ps (ws.length + 1) (on1 (lf op ws) N) p i j)) p w' := by
  have HT : Hid (Tri (on1 (lf op ws) N)) := on1_tri (lf_tri op ws) hlow
  have hwl := rc.wl
  have hpl := rc.pl
  have HRC : Hid (Rc w0 t n pv wv ps ws) := rc
  obtain ⟨pao, pc, rfl, hpm, -⟩ := id rc.pds
  obtain ⟨pb, po, uo, uc, rfl, hpb, hc0, hc1, hsy⟩ := rc.cell hp
  obtain ⟨hok, hbl, -, -⟩ := rc.at hp
  have HSY : Hid (Syms w0 (.slice uo (ps.getD p (0, [])).2.length uc) (ps.getD p (0, [])).2) := hsy
  have HOK : Hid (OkL t n (ps.getD p (0, [])).2) := hok
  have HBH : Hid (∀ k c, k ≤ (ps.getD p (0, [])).2.length → i ≤ c → c < j → B p k i c = vB ps (ws.length + 1) (on1 (lf op ws) N) p i c k) := hB
  have HN : Hid (∀ a i j, N a i j ≤ 2) := hN
  clear hsy hok rc hlow hc0 hB hN
  generalize hvb : vB ps (ws.length + 1) (on1 (lf op ws) N) p i j = v
  have HV : Hid (vB ps (ws.length + 1) (on1 (lf op ws) N) p i j = v) := hvb
  clear hvb
  have hv0 : v 0 = if i = j then 1 else 0 := by
    rw [← HV.out]; unfold vB; rw [List.take_zero, mr]; split <;> rfl
  generalize hbd : (ps.getD p (0, [])).2 = bd at hc1 hbl HSY HOK HBH ⊢
  have HBD : Hid ((ps.getD p (0, [])).2 = bd) := hbd
  have z2 : w.cell? ⟨y.q, 2, none⟩ = some (.slice (some ⟨pb, po, none⟩) ps.length pc) := h.bcell 2
  have z6 : w.cell? ⟨y.q, 6, none⟩ = some (.slice (some ⟨y.bb, 0, none⟩) ps.length ps.length) := h.bcell 6
  have zb : w.cell? ⟨y.bb, p, none⟩ = some (.slice (some ⟨y.bs p, 0, none⟩) (bd.length + 1) (bd.length + 1)) := by
    have := h.bods.cell hp
    rw [hbd] at this; exact this
  have zu : w.cell? ⟨pb, po + p * 2 + 1, none⟩ = some (.slice uo bd.length uc) := (h.bel.cell (p := ⟨pb, po + p * 2 + 1, none⟩) hpb).trans hc1
  have hp2 : (p : Int) < (ps.length : Int) := by omega
  have HC : Hid (Ch w0 y t n (.slice (some ⟨pb, po, none⟩) ps.length pc) wv ps ws op N B w) := h
  have HP : Hid (p < ps.length) := hp
  have HC1W : Hid (w0.cell? ⟨pb, po + p * 2 + 1, none⟩ = some (.slice uo bd.length uc)) := hc1
  clear h hc1 hbd
  have k2 : (i : Int) < 21 := by omega
  have k5 : (j : Int) < 21 := by omega
  have fin : ∀ (W1 : World), Cb w w0 y t n (.slice (some ⟨pb, po, none⟩) ps.length pc) wv ps ws op N (stB B p i j 0 v) p W1 → True := fun _ _ => trivial
  clear fin
  by_cases hij2 : i = j
  · rw [if_pos hij2] at hv0
    have c0 := HC.out.scell HP.out (k := 0) (i := i) (j := j) (by omega) (by omega) (by omega)
    have c1 := World.rowIs.frozen (HC.out.body p HP.out) (0 * 441 + i * 21 + j)
    have HC1 : Hid (Cb w w0 y t n (.slice (some ⟨pb, po, none⟩) ps.length pc) wv ps ws op N (stB B p i j 0 v) p (w.setCell ⟨y.bs p, 0 * 441 + i * 21 + j, none⟩ (.int .u8 1))) := by
      refine ⟨?_, Fm.set (X := fun k => k = y.bs p) _ rfl⟩
      have := HC.out.setB HP.out (k := 0) (i := i) (j := j) (by omega) (by omega) (v 0)
      rw [updB_zero, hv0] at this; exact this
    rw [Nat.zero_mul, Nat.zero_add] at c0 c1 HC1
    have hb0 : ((i : Int) == (j : Int)) = true := by simp; omega
    have HIJ : Hid (i = j) := hij2
    have d2 : (w.setCell ⟨y.bs p, i * 21 + j, none⟩ (.int .u8 1)).cell? ⟨y.q, 2, none⟩ = some (.slice (some ⟨pb, po, none⟩) ps.length pc) := HC1.out.ch.bcell 2
    have d3 : (w.setCell ⟨y.bs p, i * 21 + j, none⟩ (.int .u8 1)).cell? ⟨pb, po + p * 2 + 1, none⟩ = some (.slice uo bd.length uc) := (HC1.out.ch.bel.cell (p := ⟨pb, po + p * 2 + 1, none⟩) hpb).trans HC1W.out
    clear hij2
    go_enter Try.func89, Try.ntmps89
    go_wp2_with fail
    go_loopw [39] (fun q wr => ∃ m : Nat, m ≤ bd.length ∧ q = .int .i64 (m : Int) ∧ Cb w w0 y t n (.slice (some ⟨pb, po, none⟩) ps.length pc) wv ps ws op N (stB B p i j m v) p wr) (fun q _ => bd.length - (intOf q).toNat)
    case atStart => exact ⟨0, by omega, rfl, HC1.out⟩
    case round =>
      obtain ⟨m, hm, rfl, hcb⟩ := hrel
      by_cases hlt : m < bd.length
      · obtain ⟨b2, o2, rfl, hb2, d0, d1⟩ := HSY.out.cell hlt
        have hs := HOK.out bd[m] (List.getElem_mem hlt)
        have HGE : Hid (bd.getD m (0, 0) = bd[m]) := by show _ = _; rw [List.getD_eq_getElem?_getD, List.getElem?_eq_getElem hlt]; rfl
        generalize bd[m] = sy at d0 d1 hs HGE
        obtain ⟨s0, s1⟩ := sy
        replace d0 : wr.cell? ⟨b2, o2 + m * 2, none⟩ = some (.int .i64 s0) := (hcb.ch.bel.cell (p := ⟨b2, o2 + m * 2, none⟩) hb2).trans d0
        replace d1 : wr.cell? ⟨b2, o2 + m * 2 + 1, none⟩ = some (.int .i64 s1) := (hcb.ch.bel.cell (p := ⟨b2, o2 + m * 2 + 1, none⟩) hb2).trans d1
        have HS : Hid ((s0 = 1 ∧ 0 ≤ s1 ∧ s1 < t) ∨ (s0 = 2 ∧ 0 ≤ s1 ∧ s1 < (n : Int))) := hs
        have HCS : Hid (CsQ w w0 y t n (.slice (some ⟨pb, po, none⟩) ps.length pc) wv ps ws op N (stB B p i j m v) p wr.heap.size s0 s1 (wr.alloc (Obj.cells #[.int .i64 s0, .int .i64 s1] 80))) := ⟨hcb.next (below_alloc _ _), B2.box _ _ _ _⟩
        have hk1 : (m : Int) < (bd.length : Int) := by omega
        have hpz : pB ps (ws.length + 1) (on1 (lf op ws) N) p i j m i = 0 := pB_zero HT.out
        clear hcb hs hm
        go_wp2_with fail
        obtain ⟨g, HG⟩ : ∃ g, Hid (wr.heap.size = g) := ⟨_, (rfl : wr.heap.size = wr.heap.size)⟩
        obtain ⟨W2, HW2⟩ : ∃ W2, Hid (wr.alloc (Obj.cells #[.int .i64 s0, .int .i64 s1] 80) = W2) := ⟨_, (rfl : wr.alloc (Obj.cells #[.int .i64 s0, .int .i64 s1] 80) = _)⟩
        rw [HG.out, HW2.out] at HCS ⊢
        clear HW2 HG d0 d1
        go_loopw [11, 12] (fun a c W => ∃ cc : Nat, i ≤ cc ∧ cc ≤ j + 1 ∧ c = .int .i64 (cc : Int) ∧ a = .int .u8 ((pB ps (ws.length + 1) (on1 (lf op ws) N) p i j m cc : Nat) : Int) ∧ CsQ w w0 y t n (.slice (some ⟨pb, po, none⟩) ps.length pc) wv ps ws op N (stB B p i j m v) p g s0 s1 W) (fun _ c _ => j + 1 - (intOf c).toNat)
        case atStart => exact ⟨i, by omega, by omega, rfl, by rw [hpz]; rfl, HCS.out⟩
        case round =>
          obtain ⟨cc, h1, h2, rfl, rfl, hcs⟩ := hrel
          have HCS2 : Hid (CsQ w w0 y t n (.slice (some ⟨pb, po, none⟩) ps.length pc) wv ps ws op N (stB B p i j m v) p g s0 s1 wr) := hcs
          by_cases h3 : cc ≤ j
          · have hx : stB B p i j m v p m i cc = vB ps (ws.length + 1) (on1 (lf op ws) N) p i cc m := by
              unfold stB
              by_cases e : cc = j
              · rw [if_pos ⟨rfl, rfl, e, Nat.le_refl _⟩, ← HV.out, e]
              · rw [if_neg (fun h => e h.2.2.1)]; exact HBH.out m cc (by omega) h1 (by omega)
            have hst := pB_succ (ps := ps) (K := ws.length + 1) (M := on1 (lf op ws) N) (p := p) (i := i) (j := j) (k := m) (c := cc)
            rw [HBD.out, HGE.out] at hst
            have a1 := pB_le (ps := ps) (K := ws.length + 1) (M := on1 (lf op ws) N) (p := p) (i := i) (j := j) (k := m) (c := cc)
            have a2 := vB_le (ps := ps) (K := ws.length + 1) (M := on1 (lf op ws) N) (p := p) (i := i) (j := cc) (k := m)
            have a3 : on1 (lf op ws) N (s0, s1) cc j ≤ 2 := by
              unfold on1
              split
              · exact HN.out _ _ _
              · split <;> omega
            have HOF : Hid (∀ W, CsQ w w0 y t n (.slice (some ⟨pb, po, none⟩) ps.length pc) wv ps ws op N (stB B p i j m v) p g s0 s1 W → Calls Try.prog 96 #[.pointer (some ⟨y.q, 0, none⟩), .agg #[.int .i64 s0, .int .i64 s1], .int .i64 (cc : Int), .int .i64 (j : Int)] W fun e w' => e = .returned (.int .u8 ((on1 (lf op ws) N (s0, s1) cc j : Nat) : Int)) ∧ Below W.heap.size W w') := fun W hW => of_any w0 y t n _ wv ps ws op N _ W HRC.out hW.cb.ch s0 s1 HS.out cc j h3 hj
            have p0 : ∀ q : Kp (CsQ w w0 y t n (.slice (some ⟨pb, po, none⟩) ps.length pc) wv ps ws op N (stB B p i j m v) p g s0 s1), q.W.cell? ⟨y.bs p, m * 441 + i * 21 + cc, none⟩ = some (.int .u8 ((vB ps (ws.length + 1) (on1 (lf op ws) N) p i cc m : Nat) : Int)) := fun q => by
              have := q.h.cb.ch.scell HP.out (k := m) (i := i) (j := cc) (by rw [HBD.out]; omega) (by omega) (by omega)
              rw [hx] at this; exact this
            clear hx
            generalize pB ps (ws.length + 1) (on1 (lf op ws) N) p i j m cc = x1 at hst a1 ⊢
            generalize vB ps (ws.length + 1) (on1 (lf op ws) N) p i cc m = x2 at hst a2 p0
            generalize on1 (lf op ws) N (s0, s1) cc j = x3 at hst a3 HOF
            obtain ⟨x4, hx4⟩ : ∃ x4, x4 = x2 * x3 := ⟨_, rfl⟩
            have a4 : x4 ≤ 4 := by rw [hx4]; exact Nat.mul_le_mul a2 a3
            have hmu : IntKind.u8.wrap ((x2 : Int) * (x3 : Int)) = (x4 : Int) := by
              rw [show ((x2 : Int) * (x3 : Int)) = (x4 : Int) by rw [hx4]; simp]
              simp [IntKind.wrap, IntKind.bits, IntKind.signed]; omega
            rw [← hx4] at hst
            have HPL : Hid (∀ W, Calls Try.prog 90 #[.int .u8 (x1 : Int), .int .u8 (x4 : Int)] W fun e w' => e = .returned (.int .u8 ((min 2 (x1 + x4) : Nat) : Int)) ∧ Below W.heap.size W w') := fun W => plus_any x1 x4 (by omega) a4 W
            rw [hst] at HPL
            clear hx4 a1 a2 a3 a4 hst
            have p1 : ∀ q : Kp (CsQ w w0 y t n (.slice (some ⟨pb, po, none⟩) ps.length pc) wv ps ws op N (stB B p i j m v) p g s0 s1), q.W.cell? ⟨g, 0, none⟩ = some (.int .i64 s0) := fun q => q.h.b2.c0
            have p2 : ∀ q : Kp (CsQ w w0 y t n (.slice (some ⟨pb, po, none⟩) ps.length pc) wv ps ws op N (stB B p i j m v) p g s0 s1), q.W.cell? ⟨g, 1, none⟩ = some (.int .i64 s1) := fun q => q.h.b2.c1
            have S1' : CsQ w w0 y t n (.slice (some ⟨pb, po, none⟩) ps.length pc) wv ps ws op N (stB B p i j m v) p g s0 s1 wr.drew := hcs.next _ _ ((Below.refl _ _).drew)
            have hne : Nonempty (Kp (CsQ w w0 y t n (.slice (some ⟨pb, po, none⟩) ps.length pc) wv ps ws op N (stB B p i j m v) p g s0 s1)) := ⟨⟨_, S1'⟩⟩
            have k1 : (cc : Int) < 21 := by omega
            have k2 : (i : Int) < 21 := by omega
            have k3 : (m : Int) < (bd.length : Int) + 1 := by omega
            have k4 : (cc : Int) ≤ (j : Int) := by omega
            go_upto_region 10 with fail
            refine wp_region_kept mixed (by kernel_rfl) S1' ?_
            repeat (go_big_quiet_step (first | (go_at_call 96; with_reducible exact Kp.calls _ CsQ.next (HOF.out _ (Kp.h _))) | (go_at_call 90; with_reducible exact Kp.calls _ CsQ.next (HPL.out _))))
            refine wpQuiet_nil ?_
            intro W1 hw1
            obtain ⟨⟨W1, HS3⟩, rfl⟩ := hw1
            have HS4 : Hid (CsQ w w0 y t n (.slice (some ⟨pb, po, none⟩) ps.length pc) wv ps ws op N (stB B p i j m v) p g s0 s1 W1) := HS3
            clear p0 p1 p2 hne HS3 S1' hcs
            go_wp2_with fail
            go_roundw
            case rel => exact ⟨cc + 1, by omega, by omega, by go_num, rfl, HS4.out⟩
            case measure => simp [intOf]; omega
          · obtain rfl : cc = j + 1 := by omega
            have hen := pB_end HT.out (ps := ps) (K := ws.length + 1) (p := p) (i := i) (j := j) (k := m) (by omega) (by omega) (by rw [HBD.out]; exact hlt)
            rw [hen]
            have hvm : vB ps (ws.length + 1) (on1 (lf op ws) N) p i j (m + 1) = v (m + 1) := by rw [HV.out]
            rw [hvm]
            clear hen hvm
            have c0 := hcs.cb.ch.scell HP.out (k := m + 1) (i := i) (j := j) (by rw [HBD.out]; omega) (by omega) (by omega)
            have c1 := World.rowIs.frozen (hcs.cb.ch.body p HP.out) ((m + 1) * 441 + i * 21 + j)
            have HW4 : Hid (Cb w w0 y t n (.slice (some ⟨pb, po, none⟩) ps.length pc) wv ps ws op N (stB B p i j (m + 1) v) p (wr.setCell ⟨y.bs p, (m + 1) * 441 + i * 21 + j, none⟩ (.int .u8 ((v (m + 1) : Nat) : Int)))) := by
              refine ⟨?_, hcs.cb.fm.trans (Fm.set (X := fun k => k = y.bs p) _ rfl) fun _ _ h => h⟩
              have := hcs.cb.ch.setB HP.out (k := m + 1) (i := i) (j := j) (by omega) (by omega) (v (m + 1))
              rw [updB_stB] at this; exact this
            have k2 : (i : Int) < 21 := by omega
            have k5 : (j : Int) < 21 := by omega
            have k3 : (m : Int) + 1 < (bd.length : Int) + 1 := by omega
            clear hcs
            go_wp2_with fail
            go_roundw
            case rel => exact ⟨m + 1, by omega, by go_num, HW4.out⟩
            case measure => simp [intOf]; omega
      · obtain rfl : m = bd.length := by omega
        go_wp2_with fail
        refine bodyPost_end (v := .tuple #[]) (by simp [results, Try.results89, go_sem]) rfl ⟨rfl, hcb⟩
  · rw [if_neg hij2] at hv0
    have HC1 : Hid (Cb w w0 y t n (.slice (some ⟨pb, po, none⟩) ps.length pc) wv ps ws op N (stB B p i j 0 v) p w) := by
      refine ⟨?_, Fm.refl _ _⟩
      rw [stB_zero (by rw [hv0]; exact h0.resolve_left hij2)]; exact HC.out
    have hb0 : ((i : Int) == (j : Int)) = false := by simp; omega
    go_enter Try.func89, Try.ntmps89
    go_wp2_with fail
    go_loopw [39] (fun q wr => ∃ m : Nat, m ≤ bd.length ∧ q = .int .i64 (m : Int) ∧ Cb w w0 y t n (.slice (some ⟨pb, po, none⟩) ps.length pc) wv ps ws op N (stB B p i j m v) p wr) (fun q _ => bd.length - (intOf q).toNat)
    case atStart => exact ⟨0, by omega, rfl, HC1.out⟩
    case round =>
      obtain ⟨m, hm, rfl, hcb⟩ := hrel
      by_cases hlt : m < bd.length
      · obtain ⟨b2, o2, rfl, hb2, d0, d1⟩ := HSY.out.cell hlt
        have hs := HOK.out bd[m] (List.getElem_mem hlt)
        have HGE : Hid (bd.getD m (0, 0) = bd[m]) := by show _ = _; rw [List.getD_eq_getElem?_getD, List.getElem?_eq_getElem hlt]; rfl
        generalize bd[m] = sy at d0 d1 hs HGE
        obtain ⟨s0, s1⟩ := sy
        replace d0 : wr.cell? ⟨b2, o2 + m * 2, none⟩ = some (.int .i64 s0) := (hcb.ch.bel.cell (p := ⟨b2, o2 + m * 2, none⟩) hb2).trans d0
        replace d1 : wr.cell? ⟨b2, o2 + m * 2 + 1, none⟩ = some (.int .i64 s1) := (hcb.ch.bel.cell (p := ⟨b2, o2 + m * 2 + 1, none⟩) hb2).trans d1
        have HS : Hid ((s0 = 1 ∧ 0 ≤ s1 ∧ s1 < t) ∨ (s0 = 2 ∧ 0 ≤ s1 ∧ s1 < (n : Int))) := hs
        have HCS : Hid (CsQ w w0 y t n (.slice (some ⟨pb, po, none⟩) ps.length pc) wv ps ws op N (stB B p i j m v) p wr.heap.size s0 s1 (wr.alloc (Obj.cells #[.int .i64 s0, .int .i64 s1] 80))) := ⟨hcb.next (below_alloc _ _), B2.box _ _ _ _⟩
        have hk1 : (m : Int) < (bd.length : Int) := by omega
        have hpz : pB ps (ws.length + 1) (on1 (lf op ws) N) p i j m i = 0 := pB_zero HT.out
        clear hcb hs hm
        go_wp2_with fail
        obtain ⟨g, HG⟩ : ∃ g, Hid (wr.heap.size = g) := ⟨_, (rfl : wr.heap.size = wr.heap.size)⟩
        obtain ⟨W2, HW2⟩ : ∃ W2, Hid (wr.alloc (Obj.cells #[.int .i64 s0, .int .i64 s1] 80) = W2) := ⟨_, (rfl : wr.alloc (Obj.cells #[.int .i64 s0, .int .i64 s1] 80) = _)⟩
        rw [HG.out, HW2.out] at HCS ⊢
        clear HW2 HG d0 d1
        go_loopw [11, 12] (fun a c W => ∃ cc : Nat, i ≤ cc ∧ cc ≤ j + 1 ∧ c = .int .i64 (cc : Int) ∧ a = .int .u8 ((pB ps (ws.length + 1) (on1 (lf op ws) N) p i j m cc : Nat) : Int) ∧ CsQ w w0 y t n (.slice (some ⟨pb, po, none⟩) ps.length pc) wv ps ws op N (stB B p i j m v) p g s0 s1 W) (fun _ c _ => j + 1 - (intOf c).toNat)
        case atStart => exact ⟨i, by omega, by omega, rfl, by rw [hpz]; rfl, HCS.out⟩
        case round =>
          obtain ⟨cc, h1, h2, rfl, rfl, hcs⟩ := hrel
          have HCS2 : Hid (CsQ w w0 y t n (.slice (some ⟨pb, po, none⟩) ps.length pc) wv ps ws op N (stB B p i j m v) p g s0 s1 wr) := hcs
          by_cases h3 : cc ≤ j
          · have hx : stB B p i j m v p m i cc = vB ps (ws.length + 1) (on1 (lf op ws) N) p i cc m := by
              unfold stB
              by_cases e : cc = j
              · rw [if_pos ⟨rfl, rfl, e, Nat.le_refl _⟩, ← HV.out, e]
              · rw [if_neg (fun h => e h.2.2.1)]; exact HBH.out m cc (by omega) h1 (by omega)
            have hst := pB_succ (ps := ps) (K := ws.length + 1) (M := on1 (lf op ws) N) (p := p) (i := i) (j := j) (k := m) (c := cc)
            rw [HBD.out, HGE.out] at hst
            have a1 := pB_le (ps := ps) (K := ws.length + 1) (M := on1 (lf op ws) N) (p := p) (i := i) (j := j) (k := m) (c := cc)
            have a2 := vB_le (ps := ps) (K := ws.length + 1) (M := on1 (lf op ws) N) (p := p) (i := i) (j := cc) (k := m)
            have a3 : on1 (lf op ws) N (s0, s1) cc j ≤ 2 := by
              unfold on1
              split
              · exact HN.out _ _ _
              · split <;> omega
            have HOF : Hid (∀ W, CsQ w w0 y t n (.slice (some ⟨pb, po, none⟩) ps.length pc) wv ps ws op N (stB B p i j m v) p g s0 s1 W → Calls Try.prog 96 #[.pointer (some ⟨y.q, 0, none⟩), .agg #[.int .i64 s0, .int .i64 s1], .int .i64 (cc : Int), .int .i64 (j : Int)] W fun e w' => e = .returned (.int .u8 ((on1 (lf op ws) N (s0, s1) cc j : Nat) : Int)) ∧ Below W.heap.size W w') := fun W hW => of_any w0 y t n _ wv ps ws op N _ W HRC.out hW.cb.ch s0 s1 HS.out cc j h3 hj
            have p0 : ∀ q : Kp (CsQ w w0 y t n (.slice (some ⟨pb, po, none⟩) ps.length pc) wv ps ws op N (stB B p i j m v) p g s0 s1), q.W.cell? ⟨y.bs p, m * 441 + i * 21 + cc, none⟩ = some (.int .u8 ((vB ps (ws.length + 1) (on1 (lf op ws) N) p i cc m : Nat) : Int)) := fun q => by
              have := q.h.cb.ch.scell HP.out (k := m) (i := i) (j := cc) (by rw [HBD.out]; omega) (by omega) (by omega)
              rw [hx] at this; exact this
            clear hx
            generalize pB ps (ws.length + 1) (on1 (lf op ws) N) p i j m cc = x1 at hst a1 ⊢
            generalize vB ps (ws.length + 1) (on1 (lf op ws) N) p i cc m = x2 at hst a2 p0
            generalize on1 (lf op ws) N (s0, s1) cc j = x3 at hst a3 HOF
            obtain ⟨x4, hx4⟩ : ∃ x4, x4 = x2 * x3 := ⟨_, rfl⟩
            have a4 : x4 ≤ 4 := by rw [hx4]; exact Nat.mul_le_mul a2 a3
            have hmu : IntKind.u8.wrap ((x2 : Int) * (x3 : Int)) = (x4 : Int) := by
              rw [show ((x2 : Int) * (x3 : Int)) = (x4 : Int) by rw [hx4]; simp]
              simp [IntKind.wrap, IntKind.bits, IntKind.signed]; omega
            rw [← hx4] at hst
            have HPL : Hid (∀ W, Calls Try.prog 90 #[.int .u8 (x1 : Int), .int .u8 (x4 : Int)] W fun e w' => e = .returned (.int .u8 ((min 2 (x1 + x4) : Nat) : Int)) ∧ Below W.heap.size W w') := fun W => plus_any x1 x4 (by omega) a4 W
            rw [hst] at HPL
            clear hx4 a1 a2 a3 a4 hst
            have p1 : ∀ q : Kp (CsQ w w0 y t n (.slice (some ⟨pb, po, none⟩) ps.length pc) wv ps ws op N (stB B p i j m v) p g s0 s1), q.W.cell? ⟨g, 0, none⟩ = some (.int .i64 s0) := fun q => q.h.b2.c0
            have p2 : ∀ q : Kp (CsQ w w0 y t n (.slice (some ⟨pb, po, none⟩) ps.length pc) wv ps ws op N (stB B p i j m v) p g s0 s1), q.W.cell? ⟨g, 1, none⟩ = some (.int .i64 s1) := fun q => q.h.b2.c1
            have S1' : CsQ w w0 y t n (.slice (some ⟨pb, po, none⟩) ps.length pc) wv ps ws op N (stB B p i j m v) p g s0 s1 wr.drew := hcs.next _ _ ((Below.refl _ _).drew)
            have hne : Nonempty (Kp (CsQ w w0 y t n (.slice (some ⟨pb, po, none⟩) ps.length pc) wv ps ws op N (stB B p i j m v) p g s0 s1)) := ⟨⟨_, S1'⟩⟩
            have k1 : (cc : Int) < 21 := by omega
            have k2 : (i : Int) < 21 := by omega
            have k3 : (m : Int) < (bd.length : Int) + 1 := by omega
            have k4 : (cc : Int) ≤ (j : Int) := by omega
            go_upto_region 10 with fail
            refine wp_region_kept mixed (by kernel_rfl) S1' ?_
            repeat (go_big_quiet_step (first | (go_at_call 96; with_reducible exact Kp.calls _ CsQ.next (HOF.out _ (Kp.h _))) | (go_at_call 90; with_reducible exact Kp.calls _ CsQ.next (HPL.out _))))
            refine wpQuiet_nil ?_
            intro W1 hw1
            obtain ⟨⟨W1, HS3⟩, rfl⟩ := hw1
            have HS4 : Hid (CsQ w w0 y t n (.slice (some ⟨pb, po, none⟩) ps.length pc) wv ps ws op N (stB B p i j m v) p g s0 s1 W1) := HS3
            clear p0 p1 p2 hne HS3 S1' hcs
            go_wp2_with fail
            go_roundw
            case rel => exact ⟨cc + 1, by omega, by omega, by go_num, rfl, HS4.out⟩
            case measure => simp [intOf]; omega
          · obtain rfl : cc = j + 1 := by omega
            have hen := pB_end HT.out (ps := ps) (K := ws.length + 1) (p := p) (i := i) (j := j) (k := m) (by omega) (by omega) (by rw [HBD.out]; exact hlt)
            rw [hen]
            have hvm : vB ps (ws.length + 1) (on1 (lf op ws) N) p i j (m + 1) = v (m + 1) := by rw [HV.out]
            rw [hvm]
            clear hen hvm
            have c0 := hcs.cb.ch.scell HP.out (k := m + 1) (i := i) (j := j) (by rw [HBD.out]; omega) (by omega) (by omega)
            have c1 := World.rowIs.frozen (hcs.cb.ch.body p HP.out) ((m + 1) * 441 + i * 21 + j)
            have HW4 : Hid (Cb w w0 y t n (.slice (some ⟨pb, po, none⟩) ps.length pc) wv ps ws op N (stB B p i j (m + 1) v) p (wr.setCell ⟨y.bs p, (m + 1) * 441 + i * 21 + j, none⟩ (.int .u8 ((v (m + 1) : Nat) : Int)))) := by
              refine ⟨?_, hcs.cb.fm.trans (Fm.set (X := fun k => k = y.bs p) _ rfl) fun _ _ h => h⟩
              have := hcs.cb.ch.setB HP.out (k := m + 1) (i := i) (j := j) (by omega) (by omega) (v (m + 1))
              rw [updB_stB] at this; exact this
            have k2 : (i : Int) < 21 := by omega
            have k5 : (j : Int) < 21 := by omega
            have k3 : (m : Int) + 1 < (bd.length : Int) + 1 := by omega
            clear hcs
            go_wp2_with fail
            go_roundw
            case rel => exact ⟨m + 1, by omega, by go_num, HW4.out⟩
            case measure => simp [intOf]; omega
      · obtain rfl : m = bd.length := by omega
        go_wp2_with fail
        refine bodyPost_end (v := .tuple #[]) (by simp [results, Try.results89, go_sem]) rfl ⟨rfl, hcb⟩
end Go.Proofs.Ytpbnnmfjahckmaa
