/-
  The contract of pushref.ofDown: the node whose events begin at a place, if there is one.
-/
import Derived.Test.YtldfiofgknmcgaaTrRead
import Derived.Test.YtldfiofgknmcgaaTrLow
import Derived.Lib.SmallJoins
import Derived.Deep.QuietTactic
namespace Go.Proofs.Ytldfiofgknmcgaa
open Go.RowKit
open Cg

theorem set3_apart2 {W : World} {g b : Nat} {x y z : Value} (h : b ≠ g) : (set3 W g x y z).heap[b]? = W.heap[b]? := by
  unfold set3
  rw [Below.heap_setCell _ _ _ _ (by simpa using h), Below.heap_setCell _ _ _ _ (by simpa using h), Below.heap_setCell _ _ _ _ (by simpa using h)]
/-- What ofDown answers. -/
def OdR (ps : List Pd) (l : List Ev) (s : Sy) (at0 : Nat) (v : Value) (r : Int) (P : Nat → Prop) (W : World) : Prop := (∃ t, RdD ps l s at0 t ∧ r = ((at0 + (evD t).length : Nat) : Int) ∧ Tx W P v t) ∨ (r = -1 ∧ v = .agg #[.int .i64 0, .int .i64 0, .slice none 0 0] ∧ NoD ps l s at0)
theorem OdR.mono {ps : List Pd} {l : List Ev} {s : Sy} {at0 : Nat} {v : Value} {r : Int} {P Q : Nat → Prop} {W : World} (h : OdR ps l s at0 v r P W) (k : ∀ b, b < W.heap.size → P b → Q b) : OdR ps l s at0 v r Q W := by
  rcases h with ⟨t, h1, h2, h3⟩ | h
  · exact Or.inl ⟨t, h1, h2, h3.mono k⟩
  · exact Or.inr h
theorem OdR.next {ps : List Pd} {l : List Ev} {s : Sy} {at0 : Nat} {v : Value} {r : Int} {P : Nat → Prop} {W W' : World} (h : OdR ps l s at0 v r P W) (hb : ∀ b, b < W.heap.size → P b → W'.heap[b]? = W.heap[b]?) (hs : W.heap.size ≤ W'.heap.size) : OdR ps l s at0 v r P W' := by
  rcases h with ⟨t, h1, h2, h3⟩ | h
  · exact Or.inl ⟨t, h1, h2, h3.next hb hs⟩
  · exact Or.inr h
def OdQ (w : World) (ps : List Pd) (l : List Ev) (s : Sy) (at0 : Nat) (e : Ending) (w' : World) : Prop := ∃ p k a m c r, e = .returned (.tuple #[.agg #[.int .i64 p, .int .i64 k, .slice a m c], .int .i64 r]) ∧ Below w.heap.size w w' ∧ OdR ps l s at0 (.agg #[.int .i64 p, .int .i64 k, .slice a m c]) r (fun b => w.heap.size ≤ b) w'
theorem OdQ.none {w w' : World} {ps : List Pd} {l : List Ev} {s : Sy} {at0 : Nat} (h : Below w.heap.size w w') (k : NoD ps l s at0) : OdQ w ps l s at0 (.returned (.tuple #[.agg #[.int .i64 0, .int .i64 0, .slice none 0 0], .int .i64 (-1)])) w' := ⟨_, _, _, _, _, _, rfl, h, Or.inr ⟨rfl, rfl, k⟩⟩
theorem OdQ.some {w w' : World} {ps : List Pd} {l : List Ev} {s : Sy} {at0 : Nat} {p k : Int} {a : Option Addr} {m c : Nat} {r : Int} {t : T} (h : Below w.heap.size w w') (q : RdD ps l s at0 t) (hr : r = ((at0 + (evD t).length : Nat) : Int)) (hx : Tx w' (fun b => w.heap.size ≤ b) (.agg #[.int .i64 p, .int .i64 k, .slice a m c]) t) : OdQ w ps l s at0 (.returned (.tuple #[.agg #[.int .i64 p, .int .i64 k, .slice a m c], .int .i64 r])) w' := ⟨_, _, _, _, _, _, rfl, h, Or.inl ⟨t, q, hr, hx⟩⟩
theorem Cg.evDL_ge : ∀ (ks : List T), ks.length ≤ (evDL ks).length
  | [] => by simp [evDL]
  | t :: ks => by
    have h1 := evDL_ge ks
    have h2 : 0 < (evD t).length := List.length_pos_iff.2 (evD_pos t)
    rw [evDL, List.length_append, List.length_cons]; omega
/-- The boxes that ofDown makes first. -/
def Oh (g : Nat) (tt n : Int) (ga : Option Addr) (gm gc : Nat) (s0 s1 : Int) (W : World) : Prop := W.heap[g]? = some (.cells #[.int .i64 tt, .int .i64 n, .slice ga gm gc] 24) ∧ W.heap[g + 1]? = some (.cells #[.int .i64 s0, .int .i64 s1] 70) ∧ W.heap[g + 2]? = some (.cells #[.int .i64 0, .int .i64 0, .slice none 0 0] 27)
theorem Oh.next {g : Nat} {tt n : Int} {ga : Option Addr} {gm gc : Nat} {s0 s1 : Int} {W W' : World} (h : Oh g tt n ga gm gc s0 s1 W) (hb : Below W.heap.size W W') : Oh g tt n ga gm gc s0 s1 W' := ⟨tbox_next h.1 hb, tbox_next h.2.1 hb, tbox_next h.2.2 hb⟩
theorem Oh.set {g : Nat} {tt n : Int} {ga : Option Addr} {gm gc : Nat} {s0 s1 : Int} {W : World} (h : Oh g tt n ga gm gc s0 s1 W) {ob j : Nat} (v : Value) (hb : g + 2 < ob) : Oh g tt n ga gm gc s0 s1 (W.setCell ⟨ob, j, Option.none⟩ v) := by
  refine ⟨?_, ?_, ?_⟩
  · rw [Below.heap_setCell _ _ _ _ (by simp; omega)]; exact h.1
  · rw [Below.heap_setCell _ _ _ _ (by simp; omega)]; exact h.2.1
  · rw [Below.heap_setCell _ _ _ _ (by simp; omega)]; exact h.2.2
theorem Dt.set {w0 : World} {dv : Value} {vs : List Value} {st : List T} {W : World} (h : Dt w0 dv vs st W) {ob j : Nat} (hob : ob < w0.heap.size) (v : Value) : Dt (w0.setCell ⟨ob, j, Option.none⟩ v) dv vs st (W.setCell ⟨ob, j, Option.none⟩ v) := by
  have e : (w0.setCell ⟨ob, j, Option.none⟩ v).heap.size = w0.heap.size := by simp [World.setCell]
  refine ⟨?_, h.len, fun i a b => ?_, ?_⟩
  · rw [e]
    refine town_keep h.own fun b hb => ?_
    have := own_ge h.own b hb
    exact Below.heap_setCell _ _ _ _ (by simp; omega)
  · have h1 := h.tx i a b
    have h2 : Tx (W.setCell ⟨ob, j, Option.none⟩ v) (Pw w0 dv) vs[i] st[i] := h1.next (fun b _ hp => Below.heap_setCell _ _ _ _ (by have := hp.1; simp; omega)) (by simp [World.setCell])
    exact h2.mono fun b _ hp => ⟨by rw [e]; exact hp.1, hp.2⟩
  · rw [e]; exact below_both h.bel v
/-- What ofDown holds in its loop: the node in the making lies in a box below its Kids. -/
structure OdH (w : World) (g ob : Nat) (tt n : Int) (ga : Option Addr) (gm gc : Nat) (s0 s1 : Int) (z : Nat) (sa : Option Addr) (sn sc : Nat) (w0 : World) (vs : List Value) (ks : List T) (W : World) : Prop where
  b0 : Below w.heap.size w w0
  sz : w0.heap.size = ob + 1
  dt : Dt w0 (.slice sa sn sc) vs ks W
  bx : w0.heap[ob]? = some (.cells #[.int .i64 (z : Int), .int .i64 0, .slice sa sn sc] 27)
  oh : Oh g tt n ga gm gc s0 s1 w0
  gt : g + 2 < ob
  ge : w.heap.size ≤ ob
theorem OdH.bel {w : World} {g ob : Nat} {tt n : Int} {ga : Option Addr} {gm gc : Nat} {s0 s1 : Int} {z : Nat} {sa : Option Addr} {sn sc : Nat} {w0 : World} {vs : List Value} {ks : List T} {W : World} (h : OdH w g ob tt n ga gm gc s0 s1 z sa sn sc w0 vs ks W) : Below w.heap.size w W := h.b0.trans (h.dt.bel.mono h.b0.size)
structure RRd (ps : List Pd) (l : List Ev) (wr : World) (gx kb : Nat) (tt n : Int) (ga : Option Addr) (gm gc : Nat) (la : Option Addr) (ln lc z pb po sb so bl bc i : Nat) (x0 x1 : Int) (at1 : Nat) (tp : Int) (tk0 : Int) (ta : Option Addr) (tm : Nat) (tc : Nat) (rr : Int) (d : Nat → Bool) (x3 x86 x87 x88 x89 x90 x91 x92 x93 x94 x95 x96 x97 x98 x99 x100 x101 : Value) (W : World) : Prop where
  f0 : d 0 = true → x87 = (.agg #[.int .i64 tt, .int .i64 n, .slice ga gm gc])
  f1 : d 1 = true → x88 = (.slice la ln lc)
  f2 : d 2 = true → x89 = (.pointer (some ⟨gx, 2, none⟩))
  f3 : d 3 = true → x90 = (.slice ga gm gc)
  f4 : d 4 = true → x91 = (.int .i64 (z : Int))
  f5 : d 5 = true → x92 = (.pointer (some ⟨pb, po + z * 2, none⟩))
  f6 : d 6 = true → x93 = (.pointer (some ⟨pb, po + z * 2 + 1, none⟩))
  f7 : d 7 = true → x94 = (.slice (some ⟨sb, so, none⟩) bl bc)
  f8 : d 8 = true → x95 = (.int .i64 (i : Int))
  f9 : d 9 = true → x96 = (.pointer (some ⟨sb, so + i * 2, none⟩))
  f10 : d 10 = true → x97 = (.agg #[.int .i64 x0, .int .i64 x1])
  f11 : d 11 = true → x98 = (.int .i64 (at1 : Int))
  f12 : d 12 = true → x99 = (.tuple #[(.agg #[.int .i64 tp, .int .i64 tk0, .slice ta tm tc]), .int .i64 rr])
  f13 : d 13 = true → x86 = (.tuple #[(.agg #[.int .i64 tp, .int .i64 tk0, .slice ta tm tc]), .int .i64 rr])
  f14 : d 14 = true → x100 = (.agg #[.int .i64 tp, .int .i64 tk0, .slice ta tm tc])
  f15 : d 15 = true → x101 = (.int .i64 rr)
  f16 : d 16 = true → True
  f17 : d 17 = true → x3 = (.int .i64 rr)
  o12_11 : d 12 = true → d 11 = true
  o13_12 : d 13 = true → d 12 = true
  o14_13 : d 14 = true → d 13 = true
  o15_13 : d 15 = true → d 13 = true
  o16_14 : d 16 = true → d 14 = true
  o17_15 : d 17 = true → d 15 = true
  s3 : d 17 = false → x3 = (.int .i64 (at1 : Int))
  bw : Below wr.heap.size wr W
  c16 : d 16 = false → W.heap[kb]? = some (.cells #[.int .i64 0, .int .i64 0, .slice none 0 0] 27)
  d16 : d 16 = true → W.heap[kb]? = some (.cells #[.int .i64 tp, .int .i64 tk0, .slice ta tm tc] 27)
  r12 : d 12 = true → OdR ps l (x0, x1) at1 (.agg #[.int .i64 tp, .int .i64 tk0, .slice ta tm tc]) rr (fun b => kb < b) W

set_option maxHeartbeats 8000000 in
set_option maxRecDepth 20000 in
theorem ofDown_all (ps : List Pd) (l : List Ev) (hlm : l.length ≤ 100000) (tt n : Int) (m : Nat) : ∀ (at0 : Nat), l.length + 1 - at0 ≤ m → at0 ≤ l.length → ∀ (pv lv : Value) (s0 s1 : Int) (w : World), Pds w pv ps → Evs w lv l →
    Calls Try.prog 42 #[.agg #[.int .i64 tt, .int .i64 n, pv], lv, .agg #[.int .i64 s0, .int .i64 s1], .int .i64 (at0 : Int)] w fun e w' => OdQ w ps l (s0, s1) at0 e w' := by
  induction m with
  | zero => intro at0 h1 h2; omega
  | succ m ih =>
    intro at0 hm ha pv lv s0 s1 w hp h
    have HIH : Hid _ := ih
    clear ih
    have HP : Hid (Pds w pv ps) := hp
    have HL : Hid (Evs w lv l) := h
    obtain ⟨ga, gc, rfl, -, -⟩ := hp
    obtain ⟨la, lc, rfl, -, hlc⟩ := h
    have HLC : Hid (l = [] ∨ ∃ b o, la = some ⟨b, o, none⟩ ∧ b < w.heap.size ∧ ∀ i (hi : i < l.length), w.cell? ⟨b, o + i * 2, none⟩ = some (.int .i64 l[i].1) ∧ w.cell? ⟨b, o + i * 2 + 1, none⟩ = some (.int .i64 l[i].2)) := hlc
    clear hlc
    obtain ⟨gm, HGM⟩ : ∃ gm, Hid (ps.length = gm) := ⟨_, (rfl : ps.length = ps.length)⟩
    obtain ⟨ln, HLN⟩ : ∃ ln, Hid (l.length = ln) := ⟨_, (rfl : l.length = _)⟩
    rw [HGM.out] at HP ⊢
    rw [HLN.out] at HL hm ha hlm ⊢
    have HB1 : Hid (Below w.heap.size w (((w.alloc (Obj.cells #[.int .i64 tt, .int .i64 n, .slice ga gm gc] 24)).alloc (Obj.cells #[.int .i64 s0, .int .i64 s1] 70)).alloc (Obj.cells #[.int .i64 0, .int .i64 0, .slice none 0 0] 27))) := by
      have h1 := below_alloc2 w (Obj.cells #[.int .i64 tt, .int .i64 n, .slice ga gm gc] 24) (Obj.cells #[.int .i64 s0, .int .i64 s1] 70)
      exact h1.trans ((below_alloc _ _).mono h1.size)
    have HG1 : Hid (Oh w.heap.size tt n ga gm gc s0 s1 (((w.alloc (Obj.cells #[.int .i64 tt, .int .i64 n, .slice ga gm gc] 24)).alloc (Obj.cells #[.int .i64 s0, .int .i64 s1] 70)).alloc (Obj.cells #[.int .i64 0, .int .i64 0, .slice none 0 0] 27))) := by
      have g1 := heap_alloc_new (w.alloc (Obj.cells #[.int .i64 tt, .int .i64 n, .slice ga gm gc] 24)) (Obj.cells #[.int .i64 s0, .int .i64 s1] 70)
      have g2 := heap_alloc_new ((w.alloc (Obj.cells #[.int .i64 tt, .int .i64 n, .slice ga gm gc] 24)).alloc (Obj.cells #[.int .i64 s0, .int .i64 s1] 70)) (Obj.cells #[.int .i64 0, .int .i64 0, .slice none 0 0] 27)
      rw [show (w.alloc (Obj.cells #[.int .i64 tt, .int .i64 n, .slice ga gm gc] 24)).heap.size = w.heap.size + 1 by simp] at g1
      rw [show ((w.alloc (Obj.cells #[.int .i64 tt, .int .i64 n, .slice ga gm gc] 24)).alloc (Obj.cells #[.int .i64 s0, .int .i64 s1] 70)).heap.size = w.heap.size + 2 by simp] at g2
      exact ⟨tbox_next (tbox_next (heap_alloc_new _ _) (below_alloc _ _)) (below_alloc _ _), tbox_next g1 (below_alloc _ _), g2⟩
    go_enter Try.func42, Try.ntmps42
    go_upto_region 1 with fail
    generalize (((w.alloc (Obj.cells #[.int .i64 tt, .int .i64 n, .slice ga gm gc] 24)).alloc (Obj.cells #[.int .i64 s0, .int .i64 s1] 70)).alloc (Obj.cells #[.int .i64 0, .int .i64 0, .slice none 0 0] 27)) = w1 at HB1 HG1 ⊢
    obtain ⟨g, HGG⟩ : ∃ g, Hid (w.heap.size = g) := ⟨_, (rfl : w.heap.size = w.heap.size)⟩
    rw [HGG.out] at HG1 ⊢
    rw [show g + 1 + 1 = g + 2 by omega]
    have b0 := tcell_blk HG1.out.2.1 0
    have b1 := tcell_blk HG1.out.2.1 1
    have k2 := tcell_blk HG1.out.1 2
    simp only [List.getElem?_toArray, List.getElem?_cons_zero, List.getElem?_cons_succ] at b0 b1 k2
    by_cases hal : at0 < ln
    · have hll : at0 < l.length := by rw [HLN.out]; exact hal
      obtain ⟨lb, lo, rfl, q1, q2⟩ := HLC.out.resolve_left (by intro e; subst e; simp at hll)
      obtain ⟨x0, x1, HZ⟩ : ∃ x0 x1, Hid (l[at0] = (x0, x1)) := ⟨_, _, (rfl : l[at0] = _)⟩
      have HNK : Hid (s0 = 1 → x0 ≠ 2 → NoD ps l (s0, s1) at0) := fun h1 h2 => NoD.leaf hll h1 (by rw [HZ.out]; exact h2)
      have HN4 : Hid (s0 ≠ 1 → ¬ (x0 = 1 ∧ isPr ps x1 = true ∧ headOf ps x1 = s1) → NoD ps l (s0, s1) at0) := fun h1 h2 => NoD.kind hll h1 (by rw [HZ.out]; exact h2)
      have c1 : w1.cell? ⟨lb, lo + at0 * 2, none⟩ = some (.int .i64 l[at0].1) := (HB1.out.cell (p := ⟨lb, lo + at0 * 2, none⟩) q1).trans (q2 at0 hll).1
      have c2 : w1.cell? ⟨lb, lo + at0 * 2 + 1, none⟩ = some (.int .i64 l[at0].2) := (HB1.out.cell (p := ⟨lb, lo + at0 * 2 + 1, none⟩) q1).trans (q2 at0 hll).2
      rw [HZ.out] at c1 c2
      simp only at c1 c2
      have HQ : Hid (lb < w.heap.size ∧ ∀ i (hi : i < l.length), w.cell? ⟨lb, lo + i * 2, none⟩ = some (.int .i64 l[i].1) ∧ w.cell? ⟨lb, lo + i * 2 + 1, none⟩ = some (.int .i64 l[i].2)) := ⟨q1, q2⟩
      clear q1 q2 HLC
      have ha0 : ¬ (ln : Int) ≤ (at0 : Int) := by omega
      have ha1 : (at0 : Int) < (ln : Int) := by omega
      have ha2 : (0 : Int) ≤ (at0 : Int) := by omega
      by_cases h4 : s0 = 1
      · subst h4
        have hb1 : ((1 : Int) == 1) = true := rfl
        by_cases h2 : x0 = 2
        · subst h2
          have hb2 : ((2 : Int) != 2) = false := rfl
          have HRD : Hid (RdD ps l (1, s1) at0 (.mk (-1) x1 [])) := by
            have := RdD.leaf (ps := ps) (s := (1, s1)) hll rfl (by rw [HZ.out])
            rw [HZ.out] at this
            exact this
          have HGR := HG1.out.2.2
          have HV := set3_blk HGR (.int .i64 (-1)) (.int .i64 x1) (.slice none 0 0)
          have HBV : Hid (Below w.heap.size w (set3 w1 (g + 2) (.int .i64 (-1)) (.int .i64 x1) (.slice none 0 0))) := set3_bel HB1.out (by have := HGG.out; omega)
          have r0 := tcell_blk HGR 0
          have r1 := tcell_blk HGR 1
          have r2 := tcell_blk HGR 2
          have f0 := tfrozen_blk HGR 0
          have f1 := tfrozen_blk HGR 1
          have f2 := tfrozen_blk HGR 2
          simp only [List.getElem?_toArray, List.getElem?_cons_zero, List.getElem?_cons_succ] at r0 r1 r2
          go_wp2_with fail
          rw [← set3_eq]
          generalize set3 w1 (g + 2) (.int .i64 (-1)) (.int .i64 x1) (.slice none 0 0) = w9 at *
          have z0 := tcell_blk HV 0
          have z1 := tcell_blk HV 1
          have z2 := tcell_blk HV 2
          simp only [List.getElem?_toArray, List.getElem?_cons_zero, List.getElem?_cons_succ] at z0 z1 z2
          exact bodyPost_ret (v := .tuple #[.agg #[.int .i64 (-1), .int .i64 x1, .slice none 0 0], .int .i64 ((at0 : Int) + 1)]) (by simp [results, Try.results42, go_sem, z0, z1, z2]) rfl (OdQ.some HBV.out HRD.out (by simp [evD]) (Tx.mk (-1) x1 none 0 [] (fun _ => undef) (by simp) (Or.inl rfl) (fun i hi => absurd hi (Nat.not_lt_zero _))))
        · have hb2 : (x0 != 2) = true := by simp; exact h2
          have HNO : Hid (NoD ps l (1, s1) at0) := HNK.out rfl h2
          clear h2
          have HGR := HG1.out.2.2
          have HV := set3_blk HGR (.int .i64 0) (.int .i64 0) (.slice none 0 0)
          have HBV : Hid (Below w.heap.size w (set3 w1 (g + 2) (.int .i64 0) (.int .i64 0) (.slice none 0 0))) := set3_bel HB1.out (by have := HGG.out; omega)
          have r0 := tcell_blk HGR 0
          have r1 := tcell_blk HGR 1
          have r2 := tcell_blk HGR 2
          have f0 := tfrozen_blk HGR 0
          have f1 := tfrozen_blk HGR 1
          have f2 := tfrozen_blk HGR 2
          simp only [List.getElem?_toArray, List.getElem?_cons_zero, List.getElem?_cons_succ] at r0 r1 r2
          go_wp2_with fail
          rw [← set3_eq]
          generalize set3 w1 (g + 2) (.int .i64 0) (.int .i64 0) (.slice none 0 0) = w9 at *
          have z0 := tcell_blk HV 0
          have z1 := tcell_blk HV 1
          have z2 := tcell_blk HV 2
          simp only [List.getElem?_toArray, List.getElem?_cons_zero, List.getElem?_cons_succ] at z0 z1 z2
          exact bodyPost_ret (v := .tuple #[.agg #[.int .i64 0, .int .i64 0, .slice none 0 0], .int .i64 (-1)]) (by simp [results, Try.results42, go_sem, z0, z1, z2]) rfl (OdQ.none HBV.out HNO.out)
      · have hb1 : (s0 == 1) = false := by simp; exact h4
        have HN5 : Hid (¬ (x0 = 1 ∧ isPr ps x1 = true ∧ headOf ps x1 = s1) → NoD ps l (s0, s1) at0) := HN4.out h4
        have HS4 : Hid (s0 ≠ 1) := h4
        clear h4 HN4 HNK
        by_cases h1 : x0 = 1
        · subst h1
          have hb2 : ((1 : Int) != 1) = false := rfl
          by_cases h0 : x1 < 0
          · have hb3 : decide (x1 < 0) = true := by simp; exact h0
            have HNO : Hid (NoD ps l (s0, s1) at0) := HN5.out fun e => by have := isPr_le e.2.1; omega
            go_wp2_with fail
            go_quiet (fail)
            have HB2 : Hid (Below w.heap.size w (w1.drewN nq)) := HB1.out.trans ((Go.Joins.below_draws _ _ _).mono HB1.out.size)
            have HO2 : Hid (Oh g tt n ga gm gc s0 s1 (w1.drewN nq)) := HG1.out.next (Go.Joins.below_draws _ _ _)
            generalize w1.drewN nq = w2 at HB2 HO2 ⊢
            clear c1 c2 k2 b0 b1
            have HGR := HO2.out.2.2
            have HV := set3_blk HGR (.int .i64 0) (.int .i64 0) (.slice none 0 0)
            have HBV : Hid (Below w.heap.size w (set3 w2 (g + 2) (.int .i64 0) (.int .i64 0) (.slice none 0 0))) := set3_bel HB2.out (by have := HGG.out; omega)
            have r0 := tcell_blk HGR 0
            have r1 := tcell_blk HGR 1
            have r2 := tcell_blk HGR 2
            have f0 := tfrozen_blk HGR 0
            have f1 := tfrozen_blk HGR 1
            have f2 := tfrozen_blk HGR 2
            simp only [List.getElem?_toArray, List.getElem?_cons_zero, List.getElem?_cons_succ] at r0 r1 r2
            go_wp2_with fail
            rw [← set3_eq]
            generalize set3 w2 (g + 2) (.int .i64 0) (.int .i64 0) (.slice none 0 0) = w9 at *
            have z0 := tcell_blk HV 0
            have z1 := tcell_blk HV 1
            have z2 := tcell_blk HV 2
            simp only [List.getElem?_toArray, List.getElem?_cons_zero, List.getElem?_cons_succ] at z0 z1 z2
            exact bodyPost_ret (v := .tuple #[.agg #[.int .i64 0, .int .i64 0, .slice none 0 0], .int .i64 (-1)]) (by simp [results, Try.results42, go_sem, z0, z1, z2]) rfl (OdQ.none HBV.out HNO.out)
          · obtain ⟨z, rfl⟩ : ∃ z : Nat, x1 = (z : Int) := ⟨x1.toNat, by omega⟩
            have hb3 : decide ((z : Int) < 0) = false := by simp
            clear h0
            by_cases hz : z < gm
            · have hzI : (z : Int) < (gm : Int) := by omega
              have hz0 : (0 : Int) ≤ (z : Int) := by omega
              have hb4 : decide ((gm : Int) ≤ (z : Int)) = false := by simp; omega
              have hb4n : decide (gm ≤ z) = false := by simp; omega
              have hpr : isPr ps (z : Int) = true := by unfold isPr; rw [HGM.out]; simp; omega
              have HPR : Hid (isPr ps (z : Int) = true) := hpr
              obtain ⟨pb, po, bo, bc, rfl, -, hbl, hc0, hc1, hsy⟩ := Pds.prod HP.out hpr
              simp only [Int.toNat_natCast] at hc0 hc1
              clear hpr
              have d0 : w1.cell? ⟨pb, po + z * 2, none⟩ = some (.int .i64 (headOf ps (z : Int))) := (HB1.out.cell (p := ⟨pb, po + z * 2, none⟩) hbl).trans hc0
              obtain ⟨hd, HHD⟩ : ∃ hd, Hid (headOf ps (z : Int) = hd) := ⟨_, (rfl : headOf ps (z : Int) = _)⟩
              rw [HHD.out] at d0 HN5
              obtain ⟨bl, HBN⟩ : ∃ bl, Hid ((bodyOf ps (z : Int)).length = bl) := ⟨_, (rfl : (bodyOf ps (z : Int)).length = _)⟩
              rw [HBN.out] at hc1 hsy
              have HPC0 : Hid (∀ W, Below w.heap.size w W → W.cell? ⟨pb, po + z * 2 + 1, none⟩ = some (.slice bo bl bc)) := fun W hb => (hb.cell (p := ⟨pb, po + z * 2 + 1, none⟩) hbl).trans hc1
              have HSY : Hid (Syms w (.slice bo bl bc) (bodyOf ps (z : Int))) := hsy
              clear hc0 hc1 hsy
              by_cases hh : hd = s1
              · subst hh
                have hb5 : (hd != hd) = false := by simp
                go_wp2_with fail
                go_quiet (fail)
                have HB2 : Hid (Below w.heap.size w (w1.drewN nq)) := HB1.out.trans ((Go.Joins.below_draws _ _ _).mono HB1.out.size)
                have HO2 : Hid (Oh g tt n (some ⟨pb, po, none⟩) gm gc s0 hd (w1.drewN nq)) := HG1.out.next (Go.Joins.below_draws _ _ _)
                generalize w1.drewN nq = w2 at HB2 HO2 ⊢
                clear c1 c2 k2 b0 b1 d0
                have HB3 : Hid (Below w.heap.size w (w2.alloc (Obj.cells #[.int .i64 (z : Int), .int .i64 0, .slice none 0 0] 27))) := HB2.out.trans ((below_alloc _ _).mono HB2.out.size)
                have HO3 : Hid (Oh g tt n (some ⟨pb, po, none⟩) gm gc s0 hd (w2.alloc (Obj.cells #[.int .i64 (z : Int), .int .i64 0, .slice none 0 0] 27))) := HO2.out.next (below_alloc _ _)
                have HX3 : Hid ((w2.alloc (Obj.cells #[.int .i64 (z : Int), .int .i64 0, .slice none 0 0] 27)).heap[w2.heap.size]? = some (.cells #[.int .i64 (z : Int), .int .i64 0, .slice none 0 0] 27)) := heap_alloc_new _ _
                have HS3 : Hid ((w2.alloc (Obj.cells #[.int .i64 (z : Int), .int .i64 0, .slice none 0 0] 27)).heap.size = w2.heap.size + 1) := by show _ = _; simp
                have HGT : Hid (g + 2 < w2.heap.size ∧ w.heap.size ≤ w2.heap.size) := ⟨heap_lt3 HO2.out.2.2, HB2.out.size⟩
                go_upto_region 13 with fail
                obtain ⟨ob, HOB⟩ : ∃ ob, Hid (w2.heap.size = ob) := ⟨_, (rfl : w2.heap.size = _)⟩
                rw [HOB.out] at HX3 HS3 HGT ⊢
                generalize (w2.alloc (Obj.cells #[.int .i64 (z : Int), .int .i64 0, .slice none 0 0] 27)) = w3 at HB3 HO3 HX3 HS3 ⊢
                clear HB2 HO2 HOB HG1 HB1
                have HSTART : Hid (∃ w0 vs ks, RdL ps l at0 (bodyOf ps (z : Int)) 0 (at0 + 1) ks ∧ OdH w g ob tt n (some ⟨pb, po, none⟩) gm gc s0 hd z none 0 0 w0 vs ks w3) := ⟨w3, [], [], RdL.start hll, HB3.out, HS3.out, Dt.nil w3 (Below.refl _ _), HX3.out, HO3.out, HGT.out.1, HGT.out.2⟩
                clear HB3 HX3 HS3 HGT HO3
                go_loopw [3, 12] (fun x y wr => ∃ (at1 i : Nat) (sa : Option Addr) (sn sc : Nat), i ≤ bl ∧ at1 ≤ ln ∧ x = .int .i64 (at1 : Int) ∧ y = .int .i64 (i : Int) ∧ Hid (∃ w0 vs ks, RdL ps l at0 (bodyOf ps (z : Int)) i at1 ks ∧ OdH w g ob tt n (some ⟨pb, po, none⟩) gm gc s0 hd z sa sn sc w0 vs ks wr)) (fun _ y _ => bl - (intOf y).toNat)
                case atStart => exact ⟨at0 + 1, 0, _, _, _, by omega, by omega, by go_num, rfl, HSTART⟩
                case round =>
                  obtain ⟨at1, i, sa, sn, sc, hi, ha1l, rfl, rfl, HI⟩ := hrel
                  clear HSTART
                  obtain ⟨w0, vs, ks, hrl, hod⟩ := HI.out
                  have HRL : Hid (RdL ps l at0 (bodyOf ps (z : Int)) i at1 ks) := hrl
                  have HOD : Hid (OdH w g ob tt n (some ⟨pb, po, none⟩) gm gc s0 hd z sa sn sc w0 vs ks wr) := hod
                  clear HI hrl hod
                  have HWR : Hid (Below w.heap.size w wr) := HOD.out.bel
                  have HOR : Hid (Oh g tt n (some ⟨pb, po, none⟩) gm gc s0 hd wr) := ⟨(HOD.out.dt.bel.block _ (heap_lt3 HOD.out.oh.1)).trans HOD.out.oh.1, (HOD.out.dt.bel.block _ (heap_lt3 HOD.out.oh.2.1)).trans HOD.out.oh.2.1, (HOD.out.dt.bel.block _ (heap_lt3 HOD.out.oh.2.2)).trans HOD.out.oh.2.2⟩
                  have e2 := tcell_blk HOR.out.1 2
                  simp only [List.getElem?_toArray, List.getElem?_cons_zero, List.getElem?_cons_succ] at e2
                  have e3 := HPC0.out wr HWR.out
                  by_cases hib : i < bl
                  · have hib2 : i < (bodyOf ps (z : Int)).length := by rw [HBN.out]; exact hib
                    obtain ⟨bo2, bc2, hse, hbm, hsc⟩ := HSY.out
                    have hbm2 : bl ≤ 9223372036854775807 := by rw [← HBN.out]; omega
                    clear hbm
                    simp only [Value.slice.injEq] at hse
                    obtain ⟨rfl, -, rfl⟩ := hse
                    obtain ⟨sb, so, rfl, hsb, hsc⟩ := hsc.resolve_left (by intro e; rw [e] at hib2; simp at hib2)
                    obtain ⟨y0, y1, HY⟩ : ∃ y0 y1, Hid ((bodyOf ps (z : Int))[i] = (y0, y1)) := ⟨_, _, (rfl : (bodyOf ps (z : Int))[i] = _)⟩
                    obtain ⟨g0, g1⟩ := hsc i hib2
                    rw [HY.out] at g0 g1
                    simp only at g0 g1
                    have HSC : Hid (∀ W, Below w.heap.size w W → W.cell? ⟨sb, so + i * 2, none⟩ = some (.int .i64 y0) ∧ W.cell? ⟨sb, so + i * 2 + 1, none⟩ = some (.int .i64 y1)) := fun W hb => ⟨(hb.cell (p := ⟨sb, so + i * 2, none⟩) hsb).trans g0, (hb.cell (p := ⟨sb, so + i * 2 + 1, none⟩) hsb).trans g1⟩
                    have HPC : Hid (∀ W, Below w.heap.size w W → W.cell? ⟨pb, po + z * 2 + 1, none⟩ = some (.slice (some ⟨sb, so, none⟩) bl bc)) := HPC0.out
                    clear hsc g0 g1
                    have hk1 : (i : Int) < (bl : Int) := by omega
                    have hk0 : (0 : Int) ≤ (i : Int) := by omega
                    have hat1 : at0 + 1 ≤ at1 := by have := HRL.out.eq1; omega
                    have HCL : Hid (∀ W, Below wr.heap.size wr W → Calls Try.prog 42 #[(.agg #[.int .i64 tt, .int .i64 n, .slice (some ⟨pb, po, none⟩) gm gc]), (.slice (some ⟨lb, lo, none⟩) ln lc), .agg #[.int .i64 y0, .int .i64 y1], .int .i64 (at1 : Int)] W fun e w' => OdQ W ps l (y0, y1) at1 e w') := fun W hb => by
                      have h1 := HWR.out.trans (hb.mono HWR.out.size)
                      exact HIH.out at1 (by rw [HLN.out]; omega) (by rw [HLN.out]; exact ha1l) _ _ y0 y1 W (HP.out.below h1) (HL.out.below h1)
                    have HKB0 : Hid ((wr.alloc (Obj.cells #[.int .i64 0, .int .i64 0, .slice none 0 0] 27)).heap[wr.heap.size]? = some (.cells #[.int .i64 0, .int .i64 0, .slice none 0 0] 27)) := heap_alloc_new _ _
                    go_upto_region 16 with fail
                    clear e2 e3
                    obtain ⟨kb, HKB⟩ : ∃ kb, Hid (wr.heap.size = kb) := ⟨_, (rfl : wr.heap.size = _)⟩
                    have HKBS : Hid (wr.heap.size ≤ kb) := Nat.le_of_eq HKB.out
                    rw [HKB.out] at HKB0 ⊢
                    refine wp_region_free mixed (fun a0 d a W => ∃ (tp : Int) (tk0 : Int) (ta : Option Addr) (tm : Nat) (tc : Nat) (rr : Int) (x3 x86 x87 x88 x89 x90 x91 x92 x93 x94 x95 x96 x97 x98 x99 x100 x101 : Value), a = (((((((((((((((((a0.put (some 3) x3).put (some 86) x86).put (some 87) x87).put (some 88) x88).put (some 89) x89).put (some 90) x90).put (some 91) x91).put (some 92) x92).put (some 93) x93).put (some 94) x94).put (some 95) x95).put (some 96) x96).put (some 97) x97).put (some 98) x98).put (some 99) x99).put (some 100) x100).put (some 101) x101) ∧ Hid (RRd ps l wr g kb tt n (some ⟨pb, po, none⟩) gm gc (some ⟨lb, lo, none⟩) ln lc z pb po sb so bl bc i y0 y1 at1 tp tk0 ta tm tc rr d x3 x86 x87 x88 x89 x90 x91 x92 x93 x94 x95 x96 x97 x98 x99 x100 x101 W)) (by kernel_rfl) ⟨0, 0, none, 0, 0, 0, (.int .i64 (at1 : Int)), u86, u87, u88, u89, u90, u91, u92, u93, u94, u95, u96, u97, u98, u99, u100, u101, by first | (simp only [Act.put, List.setIfInBounds_toArray, List.set_cons_zero, List.set_cons_succ]; done) | (simp only [Act.put, List.setIfInBounds_toArray, List.set_cons_zero, List.set_cons_succ]; rfl), ?_⟩ ?_ ?_
                    · exact ⟨fun h => no_way h, fun h => no_way h, fun h => no_way h, fun h => no_way h, fun h => no_way h, fun h => no_way h, fun h => no_way h, fun h => no_way h, fun h => no_way h, fun h => no_way h, fun h => no_way h, fun h => no_way h, fun h => no_way h, fun h => no_way h, fun h => no_way h, fun h => no_way h, fun _ => trivial, fun h => no_way h, fun h => no_way h, fun h => no_way h, fun h => no_way h, fun h => no_way h, fun h => no_way h, fun h => no_way h, fun _ => rfl, (below_alloc _ _).drew, fun _ => HKB0.out, fun h => no_way h, fun h => no_way h⟩
                    · simp only [StepAll, and_true]
                      refine ⟨?_, ?_, ?_, ?_, ?_, ?_, ?_, ?_, ?_, ?_, ?_, ?_, ?_, ?_, ?_, ?_, ?_, ?_⟩
                      · intro d a W hI hd hdep
                        obtain ⟨tp, tk0, ta, tm, tc, rr, x3, x86, x87, x88, x89, x90, x91, x92, x93, x94, x95, x96, x97, x98, x99, x100, x101, rfl, hF⟩ := hI
                        have q0 := tcell_blk (tbox_next HOR.out.1 hF.out.bw) 0
                        have q1 := tcell_blk (tbox_next HOR.out.1 hF.out.bw) 1
                        have q2 := tcell_blk (tbox_next HOR.out.1 hF.out.bw) 2
                        simp only [List.getElem?_toArray, List.getElem?_cons_zero, List.getElem?_cons_succ] at q0 q1 q2
                        clear hdep hd
                        intro K hK
                        simp only [Act.put, List.setIfInBounds_toArray, List.set_cons_zero, List.set_cons_succ]
                        go_simp
                        refine hK.out _ _ ⟨tp, tk0, ta, tm, tc, rr, x3, x86, (.agg #[.int .i64 tt, .int .i64 n, .slice (some ⟨pb, po, none⟩) gm gc]), x88, x89, x90, x91, x92, x93, x94, x95, x96, x97, x98, x99, x100, x101, by first | (simp only [Act.put, List.setIfInBounds_toArray, List.set_cons_zero, List.set_cons_succ]; done) | (simp only [Act.put, List.setIfInBounds_toArray, List.set_cons_zero, List.set_cons_succ]; rfl), ?_⟩
                        exact ⟨fun _ => rfl, fun h => hF.out.f1 (by simpa using h), fun h => hF.out.f2 (by simpa using h), fun h => hF.out.f3 (by simpa using h), fun h => hF.out.f4 (by simpa using h), fun h => hF.out.f5 (by simpa using h), fun h => hF.out.f6 (by simpa using h), fun h => hF.out.f7 (by simpa using h), fun h => hF.out.f8 (by simpa using h), fun h => hF.out.f9 (by simpa using h), fun h => hF.out.f10 (by simpa using h), fun h => hF.out.f11 (by simpa using h), fun h => hF.out.f12 (by simpa using h), fun h => hF.out.f13 (by simpa using h), fun h => hF.out.f14 (by simpa using h), fun h => hF.out.f15 (by simpa using h), fun h => hF.out.f16 (by simpa using h), fun h => hF.out.f17 (by simpa using h), fun h => by have := hF.out.o12_11 (by simpa using h); simpa using this, fun h => by have := hF.out.o13_12 (by simpa using h); simpa using this, fun h => by have := hF.out.o14_13 (by simpa using h); simpa using this, fun h => by have := hF.out.o15_13 (by simpa using h); simpa using this, fun h => by have := hF.out.o16_14 (by simpa using h); simpa using this, fun h => by have := hF.out.o17_15 (by simpa using h); simpa using this, fun h => hF.out.s3 (by simpa using h), hF.out.bw, fun h => hF.out.c16 (by simpa using h), fun h => hF.out.d16 (by simpa using h), fun h => hF.out.r12 (by simpa using h)⟩
                      · intro d a W hI hd hdep
                        obtain ⟨tp, tk0, ta, tm, tc, rr, x3, x86, x87, x88, x89, x90, x91, x92, x93, x94, x95, x96, x97, x98, x99, x100, x101, rfl, hF⟩ := hI
                        clear hdep hd
                        intro K hK
                        simp only [Act.put, List.setIfInBounds_toArray, List.set_cons_zero, List.set_cons_succ]
                        go_simp
                        refine hK.out _ _ ⟨tp, tk0, ta, tm, tc, rr, x3, x86, x87, (.slice (some ⟨lb, lo, none⟩) ln lc), x89, x90, x91, x92, x93, x94, x95, x96, x97, x98, x99, x100, x101, by first | (simp only [Act.put, List.setIfInBounds_toArray, List.set_cons_zero, List.set_cons_succ]; done) | (simp only [Act.put, List.setIfInBounds_toArray, List.set_cons_zero, List.set_cons_succ]; rfl), ?_⟩
                        exact ⟨fun h => hF.out.f0 (by simpa using h), fun _ => rfl, fun h => hF.out.f2 (by simpa using h), fun h => hF.out.f3 (by simpa using h), fun h => hF.out.f4 (by simpa using h), fun h => hF.out.f5 (by simpa using h), fun h => hF.out.f6 (by simpa using h), fun h => hF.out.f7 (by simpa using h), fun h => hF.out.f8 (by simpa using h), fun h => hF.out.f9 (by simpa using h), fun h => hF.out.f10 (by simpa using h), fun h => hF.out.f11 (by simpa using h), fun h => hF.out.f12 (by simpa using h), fun h => hF.out.f13 (by simpa using h), fun h => hF.out.f14 (by simpa using h), fun h => hF.out.f15 (by simpa using h), fun h => hF.out.f16 (by simpa using h), fun h => hF.out.f17 (by simpa using h), fun h => by have := hF.out.o12_11 (by simpa using h); simpa using this, fun h => by have := hF.out.o13_12 (by simpa using h); simpa using this, fun h => by have := hF.out.o14_13 (by simpa using h); simpa using this, fun h => by have := hF.out.o15_13 (by simpa using h); simpa using this, fun h => by have := hF.out.o16_14 (by simpa using h); simpa using this, fun h => by have := hF.out.o17_15 (by simpa using h); simpa using this, fun h => hF.out.s3 (by simpa using h), hF.out.bw, fun h => hF.out.c16 (by simpa using h), fun h => hF.out.d16 (by simpa using h), fun h => hF.out.r12 (by simpa using h)⟩
                      · intro d a W hI hd hdep
                        obtain ⟨tp, tk0, ta, tm, tc, rr, x3, x86, x87, x88, x89, x90, x91, x92, x93, x94, x95, x96, x97, x98, x99, x100, x101, rfl, hF⟩ := hI
                        clear hdep hd
                        intro K hK
                        simp only [Act.put, List.setIfInBounds_toArray, List.set_cons_zero, List.set_cons_succ]
                        go_simp
                        refine hK.out _ _ ⟨tp, tk0, ta, tm, tc, rr, x3, x86, x87, x88, (.pointer (some ⟨g, 2, none⟩)), x90, x91, x92, x93, x94, x95, x96, x97, x98, x99, x100, x101, by first | (simp only [Act.put, List.setIfInBounds_toArray, List.set_cons_zero, List.set_cons_succ]; done) | (simp only [Act.put, List.setIfInBounds_toArray, List.set_cons_zero, List.set_cons_succ]; rfl), ?_⟩
                        exact ⟨fun h => hF.out.f0 (by simpa using h), fun h => hF.out.f1 (by simpa using h), fun _ => rfl, fun h => hF.out.f3 (by simpa using h), fun h => hF.out.f4 (by simpa using h), fun h => hF.out.f5 (by simpa using h), fun h => hF.out.f6 (by simpa using h), fun h => hF.out.f7 (by simpa using h), fun h => hF.out.f8 (by simpa using h), fun h => hF.out.f9 (by simpa using h), fun h => hF.out.f10 (by simpa using h), fun h => hF.out.f11 (by simpa using h), fun h => hF.out.f12 (by simpa using h), fun h => hF.out.f13 (by simpa using h), fun h => hF.out.f14 (by simpa using h), fun h => hF.out.f15 (by simpa using h), fun h => hF.out.f16 (by simpa using h), fun h => hF.out.f17 (by simpa using h), fun h => by have := hF.out.o12_11 (by simpa using h); simpa using this, fun h => by have := hF.out.o13_12 (by simpa using h); simpa using this, fun h => by have := hF.out.o14_13 (by simpa using h); simpa using this, fun h => by have := hF.out.o15_13 (by simpa using h); simpa using this, fun h => by have := hF.out.o16_14 (by simpa using h); simpa using this, fun h => by have := hF.out.o17_15 (by simpa using h); simpa using this, fun h => hF.out.s3 (by simpa using h), hF.out.bw, fun h => hF.out.c16 (by simpa using h), fun h => hF.out.d16 (by simpa using h), fun h => hF.out.r12 (by simpa using h)⟩
                      · intro d a W hI hd hdep
                        obtain ⟨tp, tk0, ta, tm, tc, rr, x3, x86, x87, x88, x89, x90, x91, x92, x93, x94, x95, x96, x97, x98, x99, x100, x101, rfl, hF⟩ := hI
                        have hd2 : d 2 = true := dep_of hdep 2 (by kernel_rfl)
                        obtain rfl := hF.out.f2 hd2
                        have q2 := tcell_blk (tbox_next HOR.out.1 hF.out.bw) 2
                        simp only [List.getElem?_toArray, List.getElem?_cons_zero, List.getElem?_cons_succ] at q2
                        clear hdep hd hd2
                        intro K hK
                        simp only [Act.put, List.setIfInBounds_toArray, List.set_cons_zero, List.set_cons_succ]
                        go_simp
                        refine hK.out _ _ ⟨tp, tk0, ta, tm, tc, rr, x3, x86, x87, x88, (.pointer (some ⟨g, 2, none⟩)), (.slice (some ⟨pb, po, none⟩) gm gc), x91, x92, x93, x94, x95, x96, x97, x98, x99, x100, x101, by first | (simp only [Act.put, List.setIfInBounds_toArray, List.set_cons_zero, List.set_cons_succ]; done) | (simp only [Act.put, List.setIfInBounds_toArray, List.set_cons_zero, List.set_cons_succ]; rfl), ?_⟩
                        exact ⟨fun h => hF.out.f0 (by simpa using h), fun h => hF.out.f1 (by simpa using h), fun h => hF.out.f2 (by simpa using h), fun _ => rfl, fun h => hF.out.f4 (by simpa using h), fun h => hF.out.f5 (by simpa using h), fun h => hF.out.f6 (by simpa using h), fun h => hF.out.f7 (by simpa using h), fun h => hF.out.f8 (by simpa using h), fun h => hF.out.f9 (by simpa using h), fun h => hF.out.f10 (by simpa using h), fun h => hF.out.f11 (by simpa using h), fun h => hF.out.f12 (by simpa using h), fun h => hF.out.f13 (by simpa using h), fun h => hF.out.f14 (by simpa using h), fun h => hF.out.f15 (by simpa using h), fun h => hF.out.f16 (by simpa using h), fun h => hF.out.f17 (by simpa using h), fun h => by have := hF.out.o12_11 (by simpa using h); simpa using this, fun h => by have := hF.out.o13_12 (by simpa using h); simpa using this, fun h => by have := hF.out.o14_13 (by simpa using h); simpa using this, fun h => by have := hF.out.o15_13 (by simpa using h); simpa using this, fun h => by have := hF.out.o16_14 (by simpa using h); simpa using this, fun h => by have := hF.out.o17_15 (by simpa using h); simpa using this, fun h => hF.out.s3 (by simpa using h), hF.out.bw, fun h => hF.out.c16 (by simpa using h), fun h => hF.out.d16 (by simpa using h), fun h => hF.out.r12 (by simpa using h)⟩
                      · intro d a W hI hd hdep
                        obtain ⟨tp, tk0, ta, tm, tc, rr, x3, x86, x87, x88, x89, x90, x91, x92, x93, x94, x95, x96, x97, x98, x99, x100, x101, rfl, hF⟩ := hI
                        clear hdep hd
                        intro K hK
                        simp only [Act.put, List.setIfInBounds_toArray, List.set_cons_zero, List.set_cons_succ]
                        go_simp
                        refine hK.out _ _ ⟨tp, tk0, ta, tm, tc, rr, x3, x86, x87, x88, x89, x90, (.int .i64 (z : Int)), x92, x93, x94, x95, x96, x97, x98, x99, x100, x101, by first | (simp only [Act.put, List.setIfInBounds_toArray, List.set_cons_zero, List.set_cons_succ]; done) | (simp only [Act.put, List.setIfInBounds_toArray, List.set_cons_zero, List.set_cons_succ]; rfl), ?_⟩
                        exact ⟨fun h => hF.out.f0 (by simpa using h), fun h => hF.out.f1 (by simpa using h), fun h => hF.out.f2 (by simpa using h), fun h => hF.out.f3 (by simpa using h), fun _ => rfl, fun h => hF.out.f5 (by simpa using h), fun h => hF.out.f6 (by simpa using h), fun h => hF.out.f7 (by simpa using h), fun h => hF.out.f8 (by simpa using h), fun h => hF.out.f9 (by simpa using h), fun h => hF.out.f10 (by simpa using h), fun h => hF.out.f11 (by simpa using h), fun h => hF.out.f12 (by simpa using h), fun h => hF.out.f13 (by simpa using h), fun h => hF.out.f14 (by simpa using h), fun h => hF.out.f15 (by simpa using h), fun h => hF.out.f16 (by simpa using h), fun h => hF.out.f17 (by simpa using h), fun h => by have := hF.out.o12_11 (by simpa using h); simpa using this, fun h => by have := hF.out.o13_12 (by simpa using h); simpa using this, fun h => by have := hF.out.o14_13 (by simpa using h); simpa using this, fun h => by have := hF.out.o15_13 (by simpa using h); simpa using this, fun h => by have := hF.out.o16_14 (by simpa using h); simpa using this, fun h => by have := hF.out.o17_15 (by simpa using h); simpa using this, fun h => hF.out.s3 (by simpa using h), hF.out.bw, fun h => hF.out.c16 (by simpa using h), fun h => hF.out.d16 (by simpa using h), fun h => hF.out.r12 (by simpa using h)⟩
                      · intro d a W hI hd hdep
                        obtain ⟨tp, tk0, ta, tm, tc, rr, x3, x86, x87, x88, x89, x90, x91, x92, x93, x94, x95, x96, x97, x98, x99, x100, x101, rfl, hF⟩ := hI
                        have hd3 : d 3 = true := dep_of hdep 3 (by kernel_rfl)
                        have hd4 : d 4 = true := dep_of hdep 4 (by kernel_rfl)
                        obtain rfl := hF.out.f3 hd3
                        obtain rfl := hF.out.f4 hd4
                        clear hdep hd hd3 hd4
                        intro K hK
                        simp only [Act.put, List.setIfInBounds_toArray, List.set_cons_zero, List.set_cons_succ]
                        go_simp
                        refine hK.out _ _ ⟨tp, tk0, ta, tm, tc, rr, x3, x86, x87, x88, x89, (.slice (some ⟨pb, po, none⟩) gm gc), (.int .i64 (z : Int)), (.pointer (some ⟨pb, po + z * 2, none⟩)), x93, x94, x95, x96, x97, x98, x99, x100, x101, by first | (simp only [Act.put, List.setIfInBounds_toArray, List.set_cons_zero, List.set_cons_succ]; done) | (simp only [Act.put, List.setIfInBounds_toArray, List.set_cons_zero, List.set_cons_succ]; rfl), ?_⟩
                        exact ⟨fun h => hF.out.f0 (by simpa using h), fun h => hF.out.f1 (by simpa using h), fun h => hF.out.f2 (by simpa using h), fun h => hF.out.f3 (by simpa using h), fun h => hF.out.f4 (by simpa using h), fun _ => rfl, fun h => hF.out.f6 (by simpa using h), fun h => hF.out.f7 (by simpa using h), fun h => hF.out.f8 (by simpa using h), fun h => hF.out.f9 (by simpa using h), fun h => hF.out.f10 (by simpa using h), fun h => hF.out.f11 (by simpa using h), fun h => hF.out.f12 (by simpa using h), fun h => hF.out.f13 (by simpa using h), fun h => hF.out.f14 (by simpa using h), fun h => hF.out.f15 (by simpa using h), fun h => hF.out.f16 (by simpa using h), fun h => hF.out.f17 (by simpa using h), fun h => by have := hF.out.o12_11 (by simpa using h); simpa using this, fun h => by have := hF.out.o13_12 (by simpa using h); simpa using this, fun h => by have := hF.out.o14_13 (by simpa using h); simpa using this, fun h => by have := hF.out.o15_13 (by simpa using h); simpa using this, fun h => by have := hF.out.o16_14 (by simpa using h); simpa using this, fun h => by have := hF.out.o17_15 (by simpa using h); simpa using this, fun h => hF.out.s3 (by simpa using h), hF.out.bw, fun h => hF.out.c16 (by simpa using h), fun h => hF.out.d16 (by simpa using h), fun h => hF.out.r12 (by simpa using h)⟩
                      · intro d a W hI hd hdep
                        obtain ⟨tp, tk0, ta, tm, tc, rr, x3, x86, x87, x88, x89, x90, x91, x92, x93, x94, x95, x96, x97, x98, x99, x100, x101, rfl, hF⟩ := hI
                        have hd5 : d 5 = true := dep_of hdep 5 (by kernel_rfl)
                        obtain rfl := hF.out.f5 hd5
                        clear hdep hd hd5
                        intro K hK
                        simp only [Act.put, List.setIfInBounds_toArray, List.set_cons_zero, List.set_cons_succ]
                        go_simp
                        refine hK.out _ _ ⟨tp, tk0, ta, tm, tc, rr, x3, x86, x87, x88, x89, x90, x91, (.pointer (some ⟨pb, po + z * 2, none⟩)), (.pointer (some ⟨pb, po + z * 2 + 1, none⟩)), x94, x95, x96, x97, x98, x99, x100, x101, by first | (simp only [Act.put, List.setIfInBounds_toArray, List.set_cons_zero, List.set_cons_succ]; done) | (simp only [Act.put, List.setIfInBounds_toArray, List.set_cons_zero, List.set_cons_succ]; rfl), ?_⟩
                        exact ⟨fun h => hF.out.f0 (by simpa using h), fun h => hF.out.f1 (by simpa using h), fun h => hF.out.f2 (by simpa using h), fun h => hF.out.f3 (by simpa using h), fun h => hF.out.f4 (by simpa using h), fun h => hF.out.f5 (by simpa using h), fun _ => rfl, fun h => hF.out.f7 (by simpa using h), fun h => hF.out.f8 (by simpa using h), fun h => hF.out.f9 (by simpa using h), fun h => hF.out.f10 (by simpa using h), fun h => hF.out.f11 (by simpa using h), fun h => hF.out.f12 (by simpa using h), fun h => hF.out.f13 (by simpa using h), fun h => hF.out.f14 (by simpa using h), fun h => hF.out.f15 (by simpa using h), fun h => hF.out.f16 (by simpa using h), fun h => hF.out.f17 (by simpa using h), fun h => by have := hF.out.o12_11 (by simpa using h); simpa using this, fun h => by have := hF.out.o13_12 (by simpa using h); simpa using this, fun h => by have := hF.out.o14_13 (by simpa using h); simpa using this, fun h => by have := hF.out.o15_13 (by simpa using h); simpa using this, fun h => by have := hF.out.o16_14 (by simpa using h); simpa using this, fun h => by have := hF.out.o17_15 (by simpa using h); simpa using this, fun h => hF.out.s3 (by simpa using h), hF.out.bw, fun h => hF.out.c16 (by simpa using h), fun h => hF.out.d16 (by simpa using h), fun h => hF.out.r12 (by simpa using h)⟩
                      · intro d a W hI hd hdep
                        obtain ⟨tp, tk0, ta, tm, tc, rr, x3, x86, x87, x88, x89, x90, x91, x92, x93, x94, x95, x96, x97, x98, x99, x100, x101, rfl, hF⟩ := hI
                        have hd6 : d 6 = true := dep_of hdep 6 (by kernel_rfl)
                        obtain rfl := hF.out.f6 hd6
                        have q2 := HPC.out W (HWR.out.trans (hF.out.bw.mono HWR.out.size))
                        clear hdep hd hd6
                        intro K hK
                        simp only [Act.put, List.setIfInBounds_toArray, List.set_cons_zero, List.set_cons_succ]
                        go_simp
                        refine hK.out _ _ ⟨tp, tk0, ta, tm, tc, rr, x3, x86, x87, x88, x89, x90, x91, x92, (.pointer (some ⟨pb, po + z * 2 + 1, none⟩)), (.slice (some ⟨sb, so, none⟩) bl bc), x95, x96, x97, x98, x99, x100, x101, by first | (simp only [Act.put, List.setIfInBounds_toArray, List.set_cons_zero, List.set_cons_succ]; done) | (simp only [Act.put, List.setIfInBounds_toArray, List.set_cons_zero, List.set_cons_succ]; rfl), ?_⟩
                        exact ⟨fun h => hF.out.f0 (by simpa using h), fun h => hF.out.f1 (by simpa using h), fun h => hF.out.f2 (by simpa using h), fun h => hF.out.f3 (by simpa using h), fun h => hF.out.f4 (by simpa using h), fun h => hF.out.f5 (by simpa using h), fun h => hF.out.f6 (by simpa using h), fun _ => rfl, fun h => hF.out.f8 (by simpa using h), fun h => hF.out.f9 (by simpa using h), fun h => hF.out.f10 (by simpa using h), fun h => hF.out.f11 (by simpa using h), fun h => hF.out.f12 (by simpa using h), fun h => hF.out.f13 (by simpa using h), fun h => hF.out.f14 (by simpa using h), fun h => hF.out.f15 (by simpa using h), fun h => hF.out.f16 (by simpa using h), fun h => hF.out.f17 (by simpa using h), fun h => by have := hF.out.o12_11 (by simpa using h); simpa using this, fun h => by have := hF.out.o13_12 (by simpa using h); simpa using this, fun h => by have := hF.out.o14_13 (by simpa using h); simpa using this, fun h => by have := hF.out.o15_13 (by simpa using h); simpa using this, fun h => by have := hF.out.o16_14 (by simpa using h); simpa using this, fun h => by have := hF.out.o17_15 (by simpa using h); simpa using this, fun h => hF.out.s3 (by simpa using h), hF.out.bw, fun h => hF.out.c16 (by simpa using h), fun h => hF.out.d16 (by simpa using h), fun h => hF.out.r12 (by simpa using h)⟩
                      · intro d a W hI hd hdep
                        obtain ⟨tp, tk0, ta, tm, tc, rr, x3, x86, x87, x88, x89, x90, x91, x92, x93, x94, x95, x96, x97, x98, x99, x100, x101, rfl, hF⟩ := hI
                        clear hdep hd
                        intro K hK
                        simp only [Act.put, List.setIfInBounds_toArray, List.set_cons_zero, List.set_cons_succ]
                        go_simp
                        refine hK.out _ _ ⟨tp, tk0, ta, tm, tc, rr, x3, x86, x87, x88, x89, x90, x91, x92, x93, x94, (.int .i64 (i : Int)), x96, x97, x98, x99, x100, x101, by first | (simp only [Act.put, List.setIfInBounds_toArray, List.set_cons_zero, List.set_cons_succ]; done) | (simp only [Act.put, List.setIfInBounds_toArray, List.set_cons_zero, List.set_cons_succ]; rfl), ?_⟩
                        exact ⟨fun h => hF.out.f0 (by simpa using h), fun h => hF.out.f1 (by simpa using h), fun h => hF.out.f2 (by simpa using h), fun h => hF.out.f3 (by simpa using h), fun h => hF.out.f4 (by simpa using h), fun h => hF.out.f5 (by simpa using h), fun h => hF.out.f6 (by simpa using h), fun h => hF.out.f7 (by simpa using h), fun _ => rfl, fun h => hF.out.f9 (by simpa using h), fun h => hF.out.f10 (by simpa using h), fun h => hF.out.f11 (by simpa using h), fun h => hF.out.f12 (by simpa using h), fun h => hF.out.f13 (by simpa using h), fun h => hF.out.f14 (by simpa using h), fun h => hF.out.f15 (by simpa using h), fun h => hF.out.f16 (by simpa using h), fun h => hF.out.f17 (by simpa using h), fun h => by have := hF.out.o12_11 (by simpa using h); simpa using this, fun h => by have := hF.out.o13_12 (by simpa using h); simpa using this, fun h => by have := hF.out.o14_13 (by simpa using h); simpa using this, fun h => by have := hF.out.o15_13 (by simpa using h); simpa using this, fun h => by have := hF.out.o16_14 (by simpa using h); simpa using this, fun h => by have := hF.out.o17_15 (by simpa using h); simpa using this, fun h => hF.out.s3 (by simpa using h), hF.out.bw, fun h => hF.out.c16 (by simpa using h), fun h => hF.out.d16 (by simpa using h), fun h => hF.out.r12 (by simpa using h)⟩
                      · intro d a W hI hd hdep
                        obtain ⟨tp, tk0, ta, tm, tc, rr, x3, x86, x87, x88, x89, x90, x91, x92, x93, x94, x95, x96, x97, x98, x99, x100, x101, rfl, hF⟩ := hI
                        have hd7 : d 7 = true := dep_of hdep 7 (by kernel_rfl)
                        have hd8 : d 8 = true := dep_of hdep 8 (by kernel_rfl)
                        obtain rfl := hF.out.f7 hd7
                        obtain rfl := hF.out.f8 hd8
                        clear hdep hd hd7 hd8
                        intro K hK
                        simp only [Act.put, List.setIfInBounds_toArray, List.set_cons_zero, List.set_cons_succ]
                        go_simp
                        refine hK.out _ _ ⟨tp, tk0, ta, tm, tc, rr, x3, x86, x87, x88, x89, x90, x91, x92, x93, (.slice (some ⟨sb, so, none⟩) bl bc), (.int .i64 (i : Int)), (.pointer (some ⟨sb, so + i * 2, none⟩)), x97, x98, x99, x100, x101, by first | (simp only [Act.put, List.setIfInBounds_toArray, List.set_cons_zero, List.set_cons_succ]; done) | (simp only [Act.put, List.setIfInBounds_toArray, List.set_cons_zero, List.set_cons_succ]; rfl), ?_⟩
                        exact ⟨fun h => hF.out.f0 (by simpa using h), fun h => hF.out.f1 (by simpa using h), fun h => hF.out.f2 (by simpa using h), fun h => hF.out.f3 (by simpa using h), fun h => hF.out.f4 (by simpa using h), fun h => hF.out.f5 (by simpa using h), fun h => hF.out.f6 (by simpa using h), fun h => hF.out.f7 (by simpa using h), fun h => hF.out.f8 (by simpa using h), fun _ => rfl, fun h => hF.out.f10 (by simpa using h), fun h => hF.out.f11 (by simpa using h), fun h => hF.out.f12 (by simpa using h), fun h => hF.out.f13 (by simpa using h), fun h => hF.out.f14 (by simpa using h), fun h => hF.out.f15 (by simpa using h), fun h => hF.out.f16 (by simpa using h), fun h => hF.out.f17 (by simpa using h), fun h => by have := hF.out.o12_11 (by simpa using h); simpa using this, fun h => by have := hF.out.o13_12 (by simpa using h); simpa using this, fun h => by have := hF.out.o14_13 (by simpa using h); simpa using this, fun h => by have := hF.out.o15_13 (by simpa using h); simpa using this, fun h => by have := hF.out.o16_14 (by simpa using h); simpa using this, fun h => by have := hF.out.o17_15 (by simpa using h); simpa using this, fun h => hF.out.s3 (by simpa using h), hF.out.bw, fun h => hF.out.c16 (by simpa using h), fun h => hF.out.d16 (by simpa using h), fun h => hF.out.r12 (by simpa using h)⟩
                      · intro d a W hI hd hdep
                        obtain ⟨tp, tk0, ta, tm, tc, rr, x3, x86, x87, x88, x89, x90, x91, x92, x93, x94, x95, x96, x97, x98, x99, x100, x101, rfl, hF⟩ := hI
                        have hd9 : d 9 = true := dep_of hdep 9 (by kernel_rfl)
                        obtain rfl := hF.out.f9 hd9
                        have q2 := HSC.out W (HWR.out.trans (hF.out.bw.mono HWR.out.size))
                        have q3 := q2.1
                        have q4 := q2.2
                        clear q2
                        clear hdep hd hd9
                        intro K hK
                        simp only [Act.put, List.setIfInBounds_toArray, List.set_cons_zero, List.set_cons_succ]
                        go_simp
                        refine hK.out _ _ ⟨tp, tk0, ta, tm, tc, rr, x3, x86, x87, x88, x89, x90, x91, x92, x93, x94, x95, (.pointer (some ⟨sb, so + i * 2, none⟩)), (.agg #[.int .i64 y0, .int .i64 y1]), x98, x99, x100, x101, by first | (simp only [Act.put, List.setIfInBounds_toArray, List.set_cons_zero, List.set_cons_succ]; done) | (simp only [Act.put, List.setIfInBounds_toArray, List.set_cons_zero, List.set_cons_succ]; rfl), ?_⟩
                        exact ⟨fun h => hF.out.f0 (by simpa using h), fun h => hF.out.f1 (by simpa using h), fun h => hF.out.f2 (by simpa using h), fun h => hF.out.f3 (by simpa using h), fun h => hF.out.f4 (by simpa using h), fun h => hF.out.f5 (by simpa using h), fun h => hF.out.f6 (by simpa using h), fun h => hF.out.f7 (by simpa using h), fun h => hF.out.f8 (by simpa using h), fun h => hF.out.f9 (by simpa using h), fun _ => rfl, fun h => hF.out.f11 (by simpa using h), fun h => hF.out.f12 (by simpa using h), fun h => hF.out.f13 (by simpa using h), fun h => hF.out.f14 (by simpa using h), fun h => hF.out.f15 (by simpa using h), fun h => hF.out.f16 (by simpa using h), fun h => hF.out.f17 (by simpa using h), fun h => by have := hF.out.o12_11 (by simpa using h); simpa using this, fun h => by have := hF.out.o13_12 (by simpa using h); simpa using this, fun h => by have := hF.out.o14_13 (by simpa using h); simpa using this, fun h => by have := hF.out.o15_13 (by simpa using h); simpa using this, fun h => by have := hF.out.o16_14 (by simpa using h); simpa using this, fun h => by have := hF.out.o17_15 (by simpa using h); simpa using this, fun h => hF.out.s3 (by simpa using h), hF.out.bw, fun h => hF.out.c16 (by simpa using h), fun h => hF.out.d16 (by simpa using h), fun h => hF.out.r12 (by simpa using h)⟩
                      · intro d a W hI hd hdep
                        obtain ⟨tp, tk0, ta, tm, tc, rr, x3, x86, x87, x88, x89, x90, x91, x92, x93, x94, x95, x96, x97, x98, x99, x100, x101, rfl, hF⟩ := hI
                        have HD17 : d 17 = false := no_later (fun h => hF.out.o12_11 (hF.out.o13_12 (hF.out.o15_13 (hF.out.o17_15 h)))) hd
                        obtain rfl := hF.out.s3 HD17
                        clear HD17
                        clear hdep hd
                        intro K hK
                        simp only [Act.put, List.setIfInBounds_toArray, List.set_cons_zero, List.set_cons_succ]
                        go_simp
                        refine hK.out _ _ ⟨tp, tk0, ta, tm, tc, rr, (.int .i64 (at1 : Int)), x86, x87, x88, x89, x90, x91, x92, x93, x94, x95, x96, x97, (.int .i64 (at1 : Int)), x99, x100, x101, by first | (simp only [Act.put, List.setIfInBounds_toArray, List.set_cons_zero, List.set_cons_succ]; done) | (simp only [Act.put, List.setIfInBounds_toArray, List.set_cons_zero, List.set_cons_succ]; rfl), ?_⟩
                        exact ⟨fun h => hF.out.f0 (by simpa using h), fun h => hF.out.f1 (by simpa using h), fun h => hF.out.f2 (by simpa using h), fun h => hF.out.f3 (by simpa using h), fun h => hF.out.f4 (by simpa using h), fun h => hF.out.f5 (by simpa using h), fun h => hF.out.f6 (by simpa using h), fun h => hF.out.f7 (by simpa using h), fun h => hF.out.f8 (by simpa using h), fun h => hF.out.f9 (by simpa using h), fun h => hF.out.f10 (by simpa using h), fun _ => rfl, fun h => hF.out.f12 (by simpa using h), fun h => hF.out.f13 (by simpa using h), fun h => hF.out.f14 (by simpa using h), fun h => hF.out.f15 (by simpa using h), fun h => hF.out.f16 (by simpa using h), fun h => hF.out.f17 (by simpa using h), fun _ => by simp, fun h => by have := hF.out.o13_12 (by simpa using h); simpa using this, fun h => by have := hF.out.o14_13 (by simpa using h); simpa using this, fun h => by have := hF.out.o15_13 (by simpa using h); simpa using this, fun h => by have := hF.out.o16_14 (by simpa using h); simpa using this, fun h => by have := hF.out.o17_15 (by simpa using h); simpa using this, fun _ => rfl, hF.out.bw, fun h => hF.out.c16 (by simpa using h), fun h => hF.out.d16 (by simpa using h), fun h => hF.out.r12 (by simpa using h)⟩
                      · intro d a W hI hd hdep
                        obtain ⟨tp, tk0, ta, tm, tc, rr, x3, x86, x87, x88, x89, x90, x91, x92, x93, x94, x95, x96, x97, x98, x99, x100, x101, rfl, hF⟩ := hI
                        have hd0 : d 0 = true := dep_of hdep 0 (by kernel_rfl)
                        have hd1 : d 1 = true := dep_of hdep 1 (by kernel_rfl)
                        have hd10 : d 10 = true := dep_of hdep 10 (by kernel_rfl)
                        have hd11 : d 11 = true := dep_of hdep 11 (by kernel_rfl)
                        obtain rfl := hF.out.f0 hd0
                        obtain rfl := hF.out.f1 hd1
                        obtain rfl := hF.out.f10 hd10
                        obtain rfl := hF.out.f11 hd11
                        have e12_11 := hd11
                        have HD13 : Hid (d 13 = false) := no_later (hF.out.o13_12) hd
                        have HD14 : Hid (d 14 = false) := no_later (fun h => hF.out.o13_12 (hF.out.o14_13 h)) hd
                        have HD15 : Hid (d 15 = false) := no_later (fun h => hF.out.o13_12 (hF.out.o15_13 h)) hd
                        have HD16 : Hid (d 16 = false) := no_later (fun h => hF.out.o13_12 (hF.out.o14_13 (hF.out.o16_14 h))) hd
                        have HD17 : Hid (d 17 = false) := no_later (fun h => hF.out.o13_12 (hF.out.o15_13 (hF.out.o17_15 h))) hd
                        clear hdep hd hd0 hd1 hd10 hd11
                        intro K hK
                        simp only [Act.put, List.setIfInBounds_toArray, List.set_cons_zero, List.set_cons_succ]
                        go_simp
                        refine (HCL.out W hF.out.bw).mono ?_
                        rintro _ W2 ⟨tp2, tk2, ta2, tm2, tc2, rr2, rfl, hB, hbt⟩
                        have hbw : OdR ps l (y0, y1) at1 (.agg #[.int .i64 tp2, .int .i64 tk2, .slice ta2 tm2 tc2]) rr2 (fun b => kb < b) W2 := hbt.mono fun b _ hp => by have := heap_lt3 (hF.out.c16 HD16.out); omega
                        clear hbt
                        go_simp
                        refine hK.out _ _ ⟨tp2, tk2, ta2, tm2, tc2, rr2, x3, x86, (.agg #[.int .i64 tt, .int .i64 n, .slice (some ⟨pb, po, none⟩) gm gc]), (.slice (some ⟨lb, lo, none⟩) ln lc), x89, x90, x91, x92, x93, x94, x95, x96, (.agg #[.int .i64 y0, .int .i64 y1]), (.int .i64 (at1 : Int)), (.tuple #[(.agg #[.int .i64 tp2, .int .i64 tk2, .slice ta2 tm2 tc2]), .int .i64 rr2]), x100, x101, by first | (simp only [Act.put, List.setIfInBounds_toArray, List.set_cons_zero, List.set_cons_succ]; done) | (simp only [Act.put, List.setIfInBounds_toArray, List.set_cons_zero, List.set_cons_succ]; rfl), ?_⟩
                        exact ⟨fun h => hF.out.f0 (by simpa using h), fun h => hF.out.f1 (by simpa using h), fun h => hF.out.f2 (by simpa using h), fun h => hF.out.f3 (by simpa using h), fun h => hF.out.f4 (by simpa using h), fun h => hF.out.f5 (by simpa using h), fun h => hF.out.f6 (by simpa using h), fun h => hF.out.f7 (by simpa using h), fun h => hF.out.f8 (by simpa using h), fun h => hF.out.f9 (by simpa using h), fun h => hF.out.f10 (by simpa using h), fun h => hF.out.f11 (by simpa using h), fun _ => rfl, fun h => by have := HD13.out; simp [this] at h, fun h => by have := HD14.out; simp [this] at h, fun h => by have := HD15.out; simp [this] at h, fun h => hF.out.f16 (by simpa using h), fun h => by have := HD17.out; simp [this] at h, fun _ => by simpa using e12_11, fun _ => by simp, fun h => by have := hF.out.o14_13 (by simpa using h); simpa using this, fun h => by have := hF.out.o15_13 (by simpa using h); simpa using this, fun h => by have := hF.out.o16_14 (by simpa using h); simpa using this, fun h => by have := hF.out.o17_15 (by simpa using h); simpa using this, fun h => hF.out.s3 (by simpa using h), hF.out.bw.trans (hB.mono hF.out.bw.size), fun h => tbox_next (hF.out.c16 (by simpa using h)) hB, fun h => by have := HD16.out; simp [this] at h, fun _ => hbw⟩
                      · intro d a W hI hd hdep
                        obtain ⟨tp, tk0, ta, tm, tc, rr, x3, x86, x87, x88, x89, x90, x91, x92, x93, x94, x95, x96, x97, x98, x99, x100, x101, rfl, hF⟩ := hI
                        have hd12 : d 12 = true := dep_of hdep 12 (by kernel_rfl)
                        obtain rfl := hF.out.f12 hd12
                        have e13_12 := hd12
                        clear hdep hd hd12
                        intro K hK
                        simp only [Act.put, List.setIfInBounds_toArray, List.set_cons_zero, List.set_cons_succ]
                        go_simp
                        refine hK.out _ _ ⟨tp, tk0, ta, tm, tc, rr, x3, (.tuple #[(.agg #[.int .i64 tp, .int .i64 tk0, .slice ta tm tc]), .int .i64 rr]), x87, x88, x89, x90, x91, x92, x93, x94, x95, x96, x97, x98, (.tuple #[(.agg #[.int .i64 tp, .int .i64 tk0, .slice ta tm tc]), .int .i64 rr]), x100, x101, by first | (simp only [Act.put, List.setIfInBounds_toArray, List.set_cons_zero, List.set_cons_succ]; done) | (simp only [Act.put, List.setIfInBounds_toArray, List.set_cons_zero, List.set_cons_succ]; rfl), ?_⟩
                        exact ⟨fun h => hF.out.f0 (by simpa using h), fun h => hF.out.f1 (by simpa using h), fun h => hF.out.f2 (by simpa using h), fun h => hF.out.f3 (by simpa using h), fun h => hF.out.f4 (by simpa using h), fun h => hF.out.f5 (by simpa using h), fun h => hF.out.f6 (by simpa using h), fun h => hF.out.f7 (by simpa using h), fun h => hF.out.f8 (by simpa using h), fun h => hF.out.f9 (by simpa using h), fun h => hF.out.f10 (by simpa using h), fun h => hF.out.f11 (by simpa using h), fun h => hF.out.f12 (by simpa using h), fun _ => rfl, fun h => hF.out.f14 (by simpa using h), fun h => hF.out.f15 (by simpa using h), fun h => hF.out.f16 (by simpa using h), fun h => hF.out.f17 (by simpa using h), fun h => by have := hF.out.o12_11 (by simpa using h); simpa using this, fun _ => by simpa using e13_12, fun _ => by simp, fun _ => by simp, fun h => by have := hF.out.o16_14 (by simpa using h); simpa using this, fun h => by have := hF.out.o17_15 (by simpa using h); simpa using this, fun h => hF.out.s3 (by simpa using h), hF.out.bw, fun h => hF.out.c16 (by simpa using h), fun h => hF.out.d16 (by simpa using h), fun h => hF.out.r12 (by simpa using h)⟩
                      · intro d a W hI hd hdep
                        obtain ⟨tp, tk0, ta, tm, tc, rr, x3, x86, x87, x88, x89, x90, x91, x92, x93, x94, x95, x96, x97, x98, x99, x100, x101, rfl, hF⟩ := hI
                        have hd13 : d 13 = true := dep_of hdep 13 (by kernel_rfl)
                        obtain rfl := hF.out.f13 hd13
                        have e14_13 := hd13
                        clear hdep hd hd13
                        intro K hK
                        simp only [Act.put, List.setIfInBounds_toArray, List.set_cons_zero, List.set_cons_succ]
                        go_simp
                        refine hK.out _ _ ⟨tp, tk0, ta, tm, tc, rr, x3, (.tuple #[(.agg #[.int .i64 tp, .int .i64 tk0, .slice ta tm tc]), .int .i64 rr]), x87, x88, x89, x90, x91, x92, x93, x94, x95, x96, x97, x98, x99, (.agg #[.int .i64 tp, .int .i64 tk0, .slice ta tm tc]), x101, by first | (simp only [Act.put, List.setIfInBounds_toArray, List.set_cons_zero, List.set_cons_succ]; done) | (simp only [Act.put, List.setIfInBounds_toArray, List.set_cons_zero, List.set_cons_succ]; rfl), ?_⟩
                        exact ⟨fun h => hF.out.f0 (by simpa using h), fun h => hF.out.f1 (by simpa using h), fun h => hF.out.f2 (by simpa using h), fun h => hF.out.f3 (by simpa using h), fun h => hF.out.f4 (by simpa using h), fun h => hF.out.f5 (by simpa using h), fun h => hF.out.f6 (by simpa using h), fun h => hF.out.f7 (by simpa using h), fun h => hF.out.f8 (by simpa using h), fun h => hF.out.f9 (by simpa using h), fun h => hF.out.f10 (by simpa using h), fun h => hF.out.f11 (by simpa using h), fun h => hF.out.f12 (by simpa using h), fun h => hF.out.f13 (by simpa using h), fun _ => rfl, fun h => hF.out.f15 (by simpa using h), fun h => hF.out.f16 (by simpa using h), fun h => hF.out.f17 (by simpa using h), fun h => by have := hF.out.o12_11 (by simpa using h); simpa using this, fun h => by have := hF.out.o13_12 (by simpa using h); simpa using this, fun _ => by simpa using e14_13, fun h => by have := hF.out.o15_13 (by simpa using h); simpa using this, fun _ => by simp, fun h => by have := hF.out.o17_15 (by simpa using h); simpa using this, fun h => hF.out.s3 (by simpa using h), hF.out.bw, fun h => hF.out.c16 (by simpa using h), fun h => hF.out.d16 (by simpa using h), fun h => hF.out.r12 (by simpa using h)⟩
                      · intro d a W hI hd hdep
                        obtain ⟨tp, tk0, ta, tm, tc, rr, x3, x86, x87, x88, x89, x90, x91, x92, x93, x94, x95, x96, x97, x98, x99, x100, x101, rfl, hF⟩ := hI
                        have hd13 : d 13 = true := dep_of hdep 13 (by kernel_rfl)
                        obtain rfl := hF.out.f13 hd13
                        have e15_13 := hd13
                        clear hdep hd hd13
                        intro K hK
                        simp only [Act.put, List.setIfInBounds_toArray, List.set_cons_zero, List.set_cons_succ]
                        go_simp
                        refine hK.out _ _ ⟨tp, tk0, ta, tm, tc, rr, x3, (.tuple #[(.agg #[.int .i64 tp, .int .i64 tk0, .slice ta tm tc]), .int .i64 rr]), x87, x88, x89, x90, x91, x92, x93, x94, x95, x96, x97, x98, x99, x100, (.int .i64 rr), by first | (simp only [Act.put, List.setIfInBounds_toArray, List.set_cons_zero, List.set_cons_succ]; done) | (simp only [Act.put, List.setIfInBounds_toArray, List.set_cons_zero, List.set_cons_succ]; rfl), ?_⟩
                        exact ⟨fun h => hF.out.f0 (by simpa using h), fun h => hF.out.f1 (by simpa using h), fun h => hF.out.f2 (by simpa using h), fun h => hF.out.f3 (by simpa using h), fun h => hF.out.f4 (by simpa using h), fun h => hF.out.f5 (by simpa using h), fun h => hF.out.f6 (by simpa using h), fun h => hF.out.f7 (by simpa using h), fun h => hF.out.f8 (by simpa using h), fun h => hF.out.f9 (by simpa using h), fun h => hF.out.f10 (by simpa using h), fun h => hF.out.f11 (by simpa using h), fun h => hF.out.f12 (by simpa using h), fun h => hF.out.f13 (by simpa using h), fun h => hF.out.f14 (by simpa using h), fun _ => rfl, fun h => hF.out.f16 (by simpa using h), fun h => hF.out.f17 (by simpa using h), fun h => by have := hF.out.o12_11 (by simpa using h); simpa using this, fun h => by have := hF.out.o13_12 (by simpa using h); simpa using this, fun h => by have := hF.out.o14_13 (by simpa using h); simpa using this, fun _ => by simpa using e15_13, fun h => by have := hF.out.o16_14 (by simpa using h); simpa using this, fun _ => by simp, fun h => hF.out.s3 (by simpa using h), hF.out.bw, fun h => hF.out.c16 (by simpa using h), fun h => hF.out.d16 (by simpa using h), fun h => hF.out.r12 (by simpa using h)⟩
                      · intro d a W hI hd hdep
                        obtain ⟨tp, tk0, ta, tm, tc, rr, x3, x86, x87, x88, x89, x90, x91, x92, x93, x94, x95, x96, x97, x98, x99, x100, x101, rfl, hF⟩ := hI
                        have hd14 : d 14 = true := dep_of hdep 14 (by kernel_rfl)
                        obtain rfl := hF.out.f14 hd14
                        have e16_14 := hd14
                        have hr12 := hF.out.r12 (hF.out.o13_12 (hF.out.o14_13 hd14))
                        have hk := hF.out.c16 hd
                        have q0 := tcell_blk hk 0
                        have q1 := tcell_blk hk 1
                        have q2 := tcell_blk hk 2
                        have f0 := tfrozen_blk hk 0
                        have f1 := tfrozen_blk hk 1
                        have f2 := tfrozen_blk hk 2
                        simp only [List.getElem?_toArray, List.getElem?_cons_zero, List.getElem?_cons_succ] at q0 q1 q2
                        clear hdep hd hd14
                        intro K hK
                        simp only [Act.put, List.setIfInBounds_toArray, List.set_cons_zero, List.set_cons_succ]
                        go_simp
                        refine hK.out _ _ ⟨tp, tk0, ta, tm, tc, rr, x3, x86, x87, x88, x89, x90, x91, x92, x93, x94, x95, x96, x97, x98, x99, (.agg #[.int .i64 tp, .int .i64 tk0, .slice ta tm tc]), x101, by first | (simp only [Act.put, List.setIfInBounds_toArray, List.set_cons_zero, List.set_cons_succ]; done) | (simp only [Act.put, List.setIfInBounds_toArray, List.set_cons_zero, List.set_cons_succ]; rfl), ?_⟩
                        rw [← set3_eq]
                        exact ⟨fun h => hF.out.f0 (by simpa using h), fun h => hF.out.f1 (by simpa using h), fun h => hF.out.f2 (by simpa using h), fun h => hF.out.f3 (by simpa using h), fun h => hF.out.f4 (by simpa using h), fun h => hF.out.f5 (by simpa using h), fun h => hF.out.f6 (by simpa using h), fun h => hF.out.f7 (by simpa using h), fun h => hF.out.f8 (by simpa using h), fun h => hF.out.f9 (by simpa using h), fun h => hF.out.f10 (by simpa using h), fun h => hF.out.f11 (by simpa using h), fun h => hF.out.f12 (by simpa using h), fun h => hF.out.f13 (by simpa using h), fun h => hF.out.f14 (by simpa using h), fun h => hF.out.f15 (by simpa using h), fun _ => trivial, fun h => hF.out.f17 (by simpa using h), fun h => by have := hF.out.o12_11 (by simpa using h); simpa using this, fun h => by have := hF.out.o13_12 (by simpa using h); simpa using this, fun h => by have := hF.out.o14_13 (by simpa using h); simpa using this, fun h => by have := hF.out.o15_13 (by simpa using h); simpa using this, fun _ => by simpa using e16_14, fun h => by have := hF.out.o17_15 (by simpa using h); simpa using this, fun h => hF.out.s3 (by simpa using h), set3_bel hF.out.bw HKBS.out, fun h => by simp at h, fun _ => set3_blk hk _ _ _, fun _ => hr12.next (fun b _ hp => set3_apart2 (by omega)) (by simp [set3, World.setCell])⟩
                      · intro d a W hI hd hdep
                        obtain ⟨tp, tk0, ta, tm, tc, rr, x3, x86, x87, x88, x89, x90, x91, x92, x93, x94, x95, x96, x97, x98, x99, x100, x101, rfl, hF⟩ := hI
                        have hd15 : d 15 = true := dep_of hdep 15 (by kernel_rfl)
                        obtain rfl := hF.out.f15 hd15
                        have e17_15 := hd15
                        clear hdep hd hd15
                        intro K hK
                        simp only [Act.put, List.setIfInBounds_toArray, List.set_cons_zero, List.set_cons_succ]
                        go_simp
                        refine hK.out _ _ ⟨tp, tk0, ta, tm, tc, rr, (.int .i64 rr), x86, x87, x88, x89, x90, x91, x92, x93, x94, x95, x96, x97, x98, x99, x100, (.int .i64 rr), by first | (simp only [Act.put, List.setIfInBounds_toArray, List.set_cons_zero, List.set_cons_succ]; done) | (simp only [Act.put, List.setIfInBounds_toArray, List.set_cons_zero, List.set_cons_succ]; rfl), ?_⟩
                        exact ⟨fun h => hF.out.f0 (by simpa using h), fun h => hF.out.f1 (by simpa using h), fun h => hF.out.f2 (by simpa using h), fun h => hF.out.f3 (by simpa using h), fun h => hF.out.f4 (by simpa using h), fun h => hF.out.f5 (by simpa using h), fun h => hF.out.f6 (by simpa using h), fun h => hF.out.f7 (by simpa using h), fun h => hF.out.f8 (by simpa using h), fun h => hF.out.f9 (by simpa using h), fun h => hF.out.f10 (by simpa using h), fun h => hF.out.f11 (by simpa using h), fun h => hF.out.f12 (by simpa using h), fun h => hF.out.f13 (by simpa using h), fun h => hF.out.f14 (by simpa using h), fun h => hF.out.f15 (by simpa using h), fun h => hF.out.f16 (by simpa using h), fun _ => rfl, fun h => by have := hF.out.o12_11 (by simpa using h); simpa using this, fun h => by have := hF.out.o13_12 (by simpa using h); simpa using this, fun h => by have := hF.out.o14_13 (by simpa using h); simpa using this, fun h => by have := hF.out.o15_13 (by simpa using h); simpa using this, fun h => by have := hF.out.o16_14 (by simpa using h); simpa using this, fun _ => by simpa using e17_15, fun h => by simp at h, hF.out.bw, fun h => hF.out.c16 (by simpa using h), fun h => hF.out.d16 (by simpa using h), fun h => hF.out.r12 (by simpa using h)⟩
                    · intro d a W hI hall
                      obtain ⟨tp, tk0, ta, tm, tc, rr, x3, x86, x87, x88, x89, x90, x91, x92, x93, x94, x95, x96, x97, x98, x99, x100, x101, rfl, hF⟩ := hI
                      simp only [List.length_cons, List.length_nil] at hall
                      obtain rfl := hF.out.f0 (hall 0 (by omega))
                      obtain rfl := hF.out.f1 (hall 1 (by omega))
                      obtain rfl := hF.out.f2 (hall 2 (by omega))
                      obtain rfl := hF.out.f3 (hall 3 (by omega))
                      obtain rfl := hF.out.f4 (hall 4 (by omega))
                      obtain rfl := hF.out.f5 (hall 5 (by omega))
                      obtain rfl := hF.out.f6 (hall 6 (by omega))
                      obtain rfl := hF.out.f7 (hall 7 (by omega))
                      obtain rfl := hF.out.f8 (hall 8 (by omega))
                      obtain rfl := hF.out.f9 (hall 9 (by omega))
                      obtain rfl := hF.out.f10 (hall 10 (by omega))
                      obtain rfl := hF.out.f11 (hall 11 (by omega))
                      obtain rfl := hF.out.f12 (hall 12 (by omega))
                      obtain rfl := hF.out.f13 (hall 13 (by omega))
                      obtain rfl := hF.out.f14 (hall 14 (by omega))
                      obtain rfl := hF.out.f15 (hall 15 (by omega))
                      obtain rfl := hF.out.f17 (hall 17 (by omega))
                      have HBX : Hid (Below wr.heap.size wr W) := hF.out.bw
                      have HKX : Hid (W.heap[kb]? = some (.cells #[.int .i64 tp, .int .i64 tk0, .slice ta tm tc] 27)) := hF.out.d16 (hall 16 (by omega))
                      have HRX : Hid (OdR ps l (y0, y1) at1 (.agg #[.int .i64 tp, .int .i64 tk0, .slice ta tm tc]) rr (fun b => kb < b) W) := hF.out.r12 (hall 12 (by omega))
                      clear hF hall
                      simp only [Act.put, List.setIfInBounds_toArray, List.set_cons_zero, List.set_cons_succ]
                      have HWX : Hid (Below w.heap.size w W) := HWR.out.trans (HBX.out.mono HWR.out.size)
                      rcases HRX.out with ⟨t, hrd, rfl, htx⟩ | ⟨rfl, -, hno⟩
                      · have HRD : Hid (RdL ps l at0 (bodyOf ps (z : Int)) (i + 1) (at1 + (evD t).length) (ks ++ [t])) := HRL.out.next (by rw [HBN.out]; exact hib) (by rw [HY.out]; exact hrd)
                        obtain ⟨at2, HA2⟩ : ∃ at2, Hid (at1 + (evD t).length = at2) := ⟨_, (rfl : at1 + (evD t).length = _)⟩
                        rw [HA2.out] at HRD ⊢
                        have ha2l : at2 ≤ ln := by rw [← HLN.out]; exact HRD.out.lel
                        have HTX : Hid (Tx (W.alloc (Obj.cells #[.int .i64 tp, .int .i64 tk0, .slice ta tm tc] 27)) (Pw w0 (.slice sa sn sc)) (.agg #[.int .i64 tp, .int .i64 tk0, .slice ta tm tc]) t) := by
                          refine (htx.bel (below_alloc _ _)).mono fun b _ hp => ⟨?_, fun e => ?_⟩
                          · have h1 := HOD.out.dt.bel.size; have h2 := HKB.out; omega
                          · have h1 := (HOD.out.dt.own.lt b e.symm).2; have h2 := HKB.out; omega
                        have HKL : Hid (ks.length + 1 ≤ 1000000) := by
                          have h1 := evDL_ge ks
                          have h2 := HRL.out.eq1
                          have h3 := HRL.out.lel
                          have h4 := HLN.out
                          show _ ≤ _
                          omega
                        have HDX : Hid (Dt w0 (.slice sa sn sc) vs ks (W.alloc (Obj.cells #[.int .i64 tp, .int .i64 tk0, .slice ta tm tc] 27))) := (HOD.out.dt.next HBX.out).next (below_alloc _ _)
                        obtain ⟨ra, rm, rc, V, hrun, hdv⟩ := HDX.out.app2 (gb := W.heap.size) (heap_alloc_new _ _) HTX.out HKL.out
                        have HRUN : Hid _ := hrun
                        have HBXV : Hid (V.heap[ob]? = some (.cells #[.int .i64 (z : Int), .int .i64 0, .slice sa sn sc] 27)) := (hdv.bel.block _ (by have := HOD.out.sz; omega)).trans HOD.out.bx
                        have HOV : Hid (∃ w0 vs ks, RdL ps l at0 (bodyOf ps (z : Int)) (i + 1) at2 ks ∧ OdH w g ob tt n (some ⟨pb, po, none⟩) gm gc s0 hd z ra rm rc w0 vs ks (V.setCell ⟨ob, 2, none⟩ (.slice ra rm rc))) := by
                          refine ⟨w0.setCell ⟨ob, 2, none⟩ (.slice ra rm rc), vs ++ [(.agg #[.int .i64 tp, .int .i64 tk0, .slice ta tm tc])], ks ++ [t], HRD.out, ?_⟩
                          refine ⟨HOD.out.b0.setCell (p := ⟨ob, 2, none⟩) HOD.out.ge _, by simpa [World.setCell] using HOD.out.sz, hdv.set (by have := HOD.out.sz; omega) _, ?_, HOD.out.oh.set _ HOD.out.gt, HOD.out.gt, HOD.out.ge⟩
                          have := tblock_store (i := 2) HOD.out.bx (.slice ra rm rc)
                          simpa using this
                        clear hrun hdv hrd htx
                        have o2 := tcell_blk (((HBX.out.block ob (by have := HOD.out.dt.bel.size; have := HOD.out.sz; omega)).trans (HOD.out.dt.bel.block ob (by have := HOD.out.sz; omega))).trans HOD.out.bx) 2
                        have m0 := tcell_blk HKX.out 0
                        have m1 := tcell_blk HKX.out 1
                        have m2 := tcell_blk HKX.out 2
                        have v2 := tcell_blk HBXV.out 2
                        have vf := tfrozen_blk HBXV.out 2
                        simp only [List.getElem?_toArray, List.getElem?_cons_zero, List.getElem?_cons_succ] at o2 m0 m1 m2 v2
                        have hq : ¬ (at2 : Int) < 0 := by omega
                        go_wp2_with (at_builtin; refine wpList_append_run rfl _ _ 25 rfl _ _ rfl rfl HRUN.out ?_)
                        go_roundw
                        case rel => exact ⟨at2, i + 1, ra, rm, rc, by omega, ha2l, rfl, by go_num, HOV⟩
                        case measure => simp [intOf]; omega
                      · have HNO : Hid (NoD ps l (s0, hd) at0) := HRL.out.stop hll HS4.out HZ.out (by rw [HBN.out]; exact hib) (by rw [HY.out]; exact hno)
                        clear hno
                        have HGR := (tbox_next HOR.out.2.2 HBX.out)
                        have HV := set3_blk HGR (.int .i64 0) (.int .i64 0) (.slice none 0 0)
                        have HBV : Hid (Below w.heap.size w (set3 W (g + 2) (.int .i64 0) (.int .i64 0) (.slice none 0 0))) := set3_bel HWX.out (by have := HGG.out; omega)
                        have r0 := tcell_blk HGR 0
                        have r1 := tcell_blk HGR 1
                        have r2 := tcell_blk HGR 2
                        have f0 := tfrozen_blk HGR 0
                        have f1 := tfrozen_blk HGR 1
                        have f2 := tfrozen_blk HGR 2
                        simp only [List.getElem?_toArray, List.getElem?_cons_zero, List.getElem?_cons_succ] at r0 r1 r2
                        go_wp2_with fail
                        rw [← set3_eq]
                        generalize set3 W (g + 2) (.int .i64 0) (.int .i64 0) (.slice none 0 0) = w9 at *
                        have z0 := tcell_blk HV 0
                        have z1 := tcell_blk HV 1
                        have z2 := tcell_blk HV 2
                        simp only [List.getElem?_toArray, List.getElem?_cons_zero, List.getElem?_cons_succ] at z0 z1 z2
                        exact bodyPost_ret (v := .tuple #[.agg #[.int .i64 0, .int .i64 0, .slice none 0 0], .int .i64 (-1)]) (by simp [results, Try.results42, go_sem, z0, z1, z2]) rfl (OdQ.none HBV.out HNO.out)
                  · have hk1 : ¬ (i : Int) < (bl : Int) := by omega
                    have hibn : (bodyOf ps (z : Int)).length ≤ i := by rw [HBN.out]; omega
                    have HNE : Hid (∀ h : at1 < l.length, l[at1] ≠ (3, (z : Int))) → NoD ps l (s0, hd) at0 := fun h => HRL.out.noend hll HS4.out HZ.out hibn h.out
                    by_cases hal1 : at1 < ln
                    · have hl1 : at1 < l.length := by rw [HLN.out]; exact hal1
                      obtain ⟨v0, v1, HV0⟩ : ∃ v0 v1, Hid (l[at1] = (v0, v1)) := ⟨_, _, (rfl : l[at1] = _)⟩
                      have c1 : wr.cell? ⟨lb, lo + at1 * 2, none⟩ = some (.int .i64 l[at1].1) := (HWR.out.cell (p := ⟨lb, lo + at1 * 2, none⟩) HQ.out.1).trans (HQ.out.2 at1 hl1).1
                      have c2 : wr.cell? ⟨lb, lo + at1 * 2 + 1, none⟩ = some (.int .i64 l[at1].2) := (HWR.out.cell (p := ⟨lb, lo + at1 * 2 + 1, none⟩) HQ.out.1).trans (HQ.out.2 at1 hl1).2
                      rw [HV0.out] at c1 c2
                      simp only at c1 c2
                      have hc0 : ¬ (ln : Int) ≤ (at1 : Int) := by omega
                      have hc1 : (at1 : Int) < (ln : Int) := by omega
                      have hc2 : (0 : Int) ≤ (at1 : Int) := by omega
                      by_cases h5 : v0 = 3
                      · subst h5
                        have hb6 : ((3 : Int) == 3) = true := rfl
                        by_cases h6 : v1 = (z : Int)
                        · subst h6
                          have hb7 : ((z : Int) == (z : Int)) = true := by simp
                          have hdone := HRL.out.done (s := (s0, hd)) hll HS4.out HZ.out HPR.out HHD.out hibn hl1 HV0.out
                          have HDONE : Hid (RdD ps l (s0, hd) at0 (.mk (z : Int) 0 ks)) := hdone.1
                          have HLEN : Hid (at0 + (evD (.mk (z : Int) 0 ks)).length = at1 + 1) := hdone.2
                          clear hdone
                          have HTX0 : Hid (Tx wr (fun b => w0.heap.size ≤ b) (.agg #[.int .i64 (z : Int), .int .i64 0, .slice sa sn sc]) (.mk (z : Int) 0 ks)) := tx_of_own (z : Int) HOD.out.dt.own HOD.out.dt.len (by have h1 := evDL_ge ks; have h2 := HRL.out.eq1; have h3 := HRL.out.lel; have h4 := HLN.out; omega) (fun i a b => (HOD.out.dt.tx i a b).mono fun b _ hp => hp.1) (fun b hb _ => hb)
                          have HTXF : Hid (Tx (set3 wr (g + 2) (.int .i64 (z : Int)) (.int .i64 0) (.slice sa sn sc)) (fun b => w.heap.size ≤ b) (.agg #[.int .i64 (z : Int), .int .i64 0, .slice sa sn sc]) (.mk (z : Int) 0 ks)) := by
                            refine (HTX0.out.next (fun b _ hp => set3_apart2 ?_) (by simp [set3, World.setCell])).mono fun b _ hp => ?_
                            · have := HOD.out.gt; have := HOD.out.sz; have hp2 : w0.heap.size ≤ b := hp; omega
                            · have := HOD.out.b0.size; have hp2 : w0.heap.size ≤ b := hp; omega
                          have HBOX : Hid (wr.heap[ob]? = some (.cells #[.int .i64 (z : Int), .int .i64 0, .slice sa sn sc] 27)) := (HOD.out.dt.bel.block _ (by have := HOD.out.sz; omega)).trans HOD.out.bx
                          have o0 := tcell_blk HBOX.out 0
                          have o1 := tcell_blk HBOX.out 1
                          have o2 := tcell_blk HBOX.out 2
                          simp only [List.getElem?_toArray, List.getElem?_cons_zero, List.getElem?_cons_succ] at o0 o1 o2
                          have HGR := HOR.out.2.2
                          have HV := set3_blk HGR (.int .i64 (z : Int)) (.int .i64 0) (.slice sa sn sc)
                          have HBV : Hid (Below w.heap.size w (set3 wr (g + 2) (.int .i64 (z : Int)) (.int .i64 0) (.slice sa sn sc))) := set3_bel HWR.out (by have := HGG.out; omega)
                          have r0 := tcell_blk HGR 0
                          have r1 := tcell_blk HGR 1
                          have r2 := tcell_blk HGR 2
                          have f0 := tfrozen_blk HGR 0
                          have f1 := tfrozen_blk HGR 1
                          have f2 := tfrozen_blk HGR 2
                          simp only [List.getElem?_toArray, List.getElem?_cons_zero, List.getElem?_cons_succ] at r0 r1 r2
                          go_wp2_with fail
                          rw [← set3_eq]
                          generalize set3 wr (g + 2) (.int .i64 (z : Int)) (.int .i64 0) (.slice sa sn sc) = w9 at *
                          have z0 := tcell_blk HV 0
                          have z1 := tcell_blk HV 1
                          have z2 := tcell_blk HV 2
                          simp only [List.getElem?_toArray, List.getElem?_cons_zero, List.getElem?_cons_succ] at z0 z1 z2
                          exact bodyPost_ret (v := .tuple #[.agg #[.int .i64 (z : Int), .int .i64 0, .slice sa sn sc], .int .i64 ((at1 : Int) + 1)]) (by simp [results, Try.results42, go_sem, z0, z1, z2]) rfl (OdQ.some HBV.out HDONE.out (by rw [HLEN.out]; rfl) HTXF.out)
                        · have hb7 : (v1 == (z : Int)) = false := by simp; exact h6
                          have HNO : Hid (NoD ps l (s0, hd) at0) := HNE fun h e => by rw [HV0.out] at e; simp at e; exact h6 e
                          clear h6
                          have HGR := HOR.out.2.2
                          have HV := set3_blk HGR (.int .i64 0) (.int .i64 0) (.slice none 0 0)
                          have HBV : Hid (Below w.heap.size w (set3 wr (g + 2) (.int .i64 0) (.int .i64 0) (.slice none 0 0))) := set3_bel HWR.out (by have := HGG.out; omega)
                          have r0 := tcell_blk HGR 0
                          have r1 := tcell_blk HGR 1
                          have r2 := tcell_blk HGR 2
                          have f0 := tfrozen_blk HGR 0
                          have f1 := tfrozen_blk HGR 1
                          have f2 := tfrozen_blk HGR 2
                          simp only [List.getElem?_toArray, List.getElem?_cons_zero, List.getElem?_cons_succ] at r0 r1 r2
                          go_wp2_with fail
                          rw [← set3_eq]
                          generalize set3 wr (g + 2) (.int .i64 0) (.int .i64 0) (.slice none 0 0) = w9 at *
                          have z0 := tcell_blk HV 0
                          have z1 := tcell_blk HV 1
                          have z2 := tcell_blk HV 2
                          simp only [List.getElem?_toArray, List.getElem?_cons_zero, List.getElem?_cons_succ] at z0 z1 z2
                          exact bodyPost_ret (v := .tuple #[.agg #[.int .i64 0, .int .i64 0, .slice none 0 0], .int .i64 (-1)]) (by simp [results, Try.results42, go_sem, z0, z1, z2]) rfl (OdQ.none HBV.out HNO.out)
                      · have hb6 : (v0 == 3) = false := by simp; exact h5
                        have HNO : Hid (NoD ps l (s0, hd) at0) := HNE fun h e => by rw [HV0.out] at e; simp at e; exact h5 e.1
                        clear h5
                        have HGR := HOR.out.2.2
                        have HV := set3_blk HGR (.int .i64 0) (.int .i64 0) (.slice none 0 0)
                        have HBV : Hid (Below w.heap.size w (set3 wr (g + 2) (.int .i64 0) (.int .i64 0) (.slice none 0 0))) := set3_bel HWR.out (by have := HGG.out; omega)
                        have r0 := tcell_blk HGR 0
                        have r1 := tcell_blk HGR 1
                        have r2 := tcell_blk HGR 2
                        have f0 := tfrozen_blk HGR 0
                        have f1 := tfrozen_blk HGR 1
                        have f2 := tfrozen_blk HGR 2
                        simp only [List.getElem?_toArray, List.getElem?_cons_zero, List.getElem?_cons_succ] at r0 r1 r2
                        go_wp2_with fail
                        rw [← set3_eq]
                        generalize set3 wr (g + 2) (.int .i64 0) (.int .i64 0) (.slice none 0 0) = w9 at *
                        have z0 := tcell_blk HV 0
                        have z1 := tcell_blk HV 1
                        have z2 := tcell_blk HV 2
                        simp only [List.getElem?_toArray, List.getElem?_cons_zero, List.getElem?_cons_succ] at z0 z1 z2
                        exact bodyPost_ret (v := .tuple #[.agg #[.int .i64 0, .int .i64 0, .slice none 0 0], .int .i64 (-1)]) (by simp [results, Try.results42, go_sem, z0, z1, z2]) rfl (OdQ.none HBV.out HNO.out)
                    · have hc0 : (ln : Int) ≤ (at1 : Int) := by omega
                      have HNO : Hid (NoD ps l (s0, hd) at0) := HNE fun h => by have := HLN.out; omega
                      have HGR := HOR.out.2.2
                      have HV := set3_blk HGR (.int .i64 0) (.int .i64 0) (.slice none 0 0)
                      have HBV : Hid (Below w.heap.size w (set3 wr (g + 2) (.int .i64 0) (.int .i64 0) (.slice none 0 0))) := set3_bel HWR.out (by have := HGG.out; omega)
                      have r0 := tcell_blk HGR 0
                      have r1 := tcell_blk HGR 1
                      have r2 := tcell_blk HGR 2
                      have f0 := tfrozen_blk HGR 0
                      have f1 := tfrozen_blk HGR 1
                      have f2 := tfrozen_blk HGR 2
                      simp only [List.getElem?_toArray, List.getElem?_cons_zero, List.getElem?_cons_succ] at r0 r1 r2
                      go_wp2_with fail
                      rw [← set3_eq]
                      generalize set3 wr (g + 2) (.int .i64 0) (.int .i64 0) (.slice none 0 0) = w9 at *
                      have z0 := tcell_blk HV 0
                      have z1 := tcell_blk HV 1
                      have z2 := tcell_blk HV 2
                      simp only [List.getElem?_toArray, List.getElem?_cons_zero, List.getElem?_cons_succ] at z0 z1 z2
                      exact bodyPost_ret (v := .tuple #[.agg #[.int .i64 0, .int .i64 0, .slice none 0 0], .int .i64 (-1)]) (by simp [results, Try.results42, go_sem, z0, z1, z2]) rfl (OdQ.none HBV.out HNO.out)
              · have hb5 : (hd != s1) = true := by simp; exact hh
                have HNO : Hid (NoD ps l (s0, s1) at0) := HN5.out fun e => hh e.2.2
                clear hh
                go_wp2_with fail
                go_quiet (fail)
                have HB2 : Hid (Below w.heap.size w (w1.drewN nq)) := HB1.out.trans ((Go.Joins.below_draws _ _ _).mono HB1.out.size)
                have HO2 : Hid (Oh g tt n (some ⟨pb, po, none⟩) gm gc s0 s1 (w1.drewN nq)) := HG1.out.next (Go.Joins.below_draws _ _ _)
                generalize w1.drewN nq = w2 at HB2 HO2 ⊢
                clear d0 c1 c2 k2 b0 b1
                have HGR := HO2.out.2.2
                have HV := set3_blk HGR (.int .i64 0) (.int .i64 0) (.slice none 0 0)
                have HBV : Hid (Below w.heap.size w (set3 w2 (g + 2) (.int .i64 0) (.int .i64 0) (.slice none 0 0))) := set3_bel HB2.out (by have := HGG.out; omega)
                have r0 := tcell_blk HGR 0
                have r1 := tcell_blk HGR 1
                have r2 := tcell_blk HGR 2
                have f0 := tfrozen_blk HGR 0
                have f1 := tfrozen_blk HGR 1
                have f2 := tfrozen_blk HGR 2
                simp only [List.getElem?_toArray, List.getElem?_cons_zero, List.getElem?_cons_succ] at r0 r1 r2
                go_wp2_with fail
                rw [← set3_eq]
                generalize set3 w2 (g + 2) (.int .i64 0) (.int .i64 0) (.slice none 0 0) = w9 at *
                have z0 := tcell_blk HV 0
                have z1 := tcell_blk HV 1
                have z2 := tcell_blk HV 2
                simp only [List.getElem?_toArray, List.getElem?_cons_zero, List.getElem?_cons_succ] at z0 z1 z2
                exact bodyPost_ret (v := .tuple #[.agg #[.int .i64 0, .int .i64 0, .slice none 0 0], .int .i64 (-1)]) (by simp [results, Try.results42, go_sem, z0, z1, z2]) rfl (OdQ.none HBV.out HNO.out)
            · have hb4 : decide ((gm : Int) ≤ (z : Int)) = true := by simp; omega
              have HNO : Hid (NoD ps l (s0, s1) at0) := HN5.out fun e => by have := isPr_le e.2.1; have := HGM.out; omega
              go_wp2_with fail
              go_quiet (fail)
              have HB2 : Hid (Below w.heap.size w (w1.drewN nq)) := HB1.out.trans ((Go.Joins.below_draws _ _ _).mono HB1.out.size)
              have HO2 : Hid (Oh g tt n ga gm gc s0 s1 (w1.drewN nq)) := HG1.out.next (Go.Joins.below_draws _ _ _)
              generalize w1.drewN nq = w2 at HB2 HO2 ⊢
              clear c1 c2 k2 b0 b1
              have HGR := HO2.out.2.2
              have HV := set3_blk HGR (.int .i64 0) (.int .i64 0) (.slice none 0 0)
              have HBV : Hid (Below w.heap.size w (set3 w2 (g + 2) (.int .i64 0) (.int .i64 0) (.slice none 0 0))) := set3_bel HB2.out (by have := HGG.out; omega)
              have r0 := tcell_blk HGR 0
              have r1 := tcell_blk HGR 1
              have r2 := tcell_blk HGR 2
              have f0 := tfrozen_blk HGR 0
              have f1 := tfrozen_blk HGR 1
              have f2 := tfrozen_blk HGR 2
              simp only [List.getElem?_toArray, List.getElem?_cons_zero, List.getElem?_cons_succ] at r0 r1 r2
              go_wp2_with fail
              rw [← set3_eq]
              generalize set3 w2 (g + 2) (.int .i64 0) (.int .i64 0) (.slice none 0 0) = w9 at *
              have z0 := tcell_blk HV 0
              have z1 := tcell_blk HV 1
              have z2 := tcell_blk HV 2
              simp only [List.getElem?_toArray, List.getElem?_cons_zero, List.getElem?_cons_succ] at z0 z1 z2
              exact bodyPost_ret (v := .tuple #[.agg #[.int .i64 0, .int .i64 0, .slice none 0 0], .int .i64 (-1)]) (by simp [results, Try.results42, go_sem, z0, z1, z2]) rfl (OdQ.none HBV.out HNO.out)
        · have hb2 : (x0 != 1) = true := by simp; exact h1
          have HNO : Hid (NoD ps l (s0, s1) at0) := HN5.out fun e => h1 e.1
          clear h1
          go_wp2_with fail
          go_quiet (fail)
          have HB2 : Hid (Below w.heap.size w (w1.drewN nq)) := HB1.out.trans ((Go.Joins.below_draws _ _ _).mono HB1.out.size)
          have HO2 : Hid (Oh g tt n ga gm gc s0 s1 (w1.drewN nq)) := HG1.out.next (Go.Joins.below_draws _ _ _)
          generalize w1.drewN nq = w2 at HB2 HO2 ⊢
          clear c1 c2 k2 b0 b1
          have HGR := HO2.out.2.2
          have HV := set3_blk HGR (.int .i64 0) (.int .i64 0) (.slice none 0 0)
          have HBV : Hid (Below w.heap.size w (set3 w2 (g + 2) (.int .i64 0) (.int .i64 0) (.slice none 0 0))) := set3_bel HB2.out (by have := HGG.out; omega)
          have r0 := tcell_blk HGR 0
          have r1 := tcell_blk HGR 1
          have r2 := tcell_blk HGR 2
          have f0 := tfrozen_blk HGR 0
          have f1 := tfrozen_blk HGR 1
          have f2 := tfrozen_blk HGR 2
          simp only [List.getElem?_toArray, List.getElem?_cons_zero, List.getElem?_cons_succ] at r0 r1 r2
          go_wp2_with fail
          rw [← set3_eq]
          generalize set3 w2 (g + 2) (.int .i64 0) (.int .i64 0) (.slice none 0 0) = w9 at *
          have z0 := tcell_blk HV 0
          have z1 := tcell_blk HV 1
          have z2 := tcell_blk HV 2
          simp only [List.getElem?_toArray, List.getElem?_cons_zero, List.getElem?_cons_succ] at z0 z1 z2
          exact bodyPost_ret (v := .tuple #[.agg #[.int .i64 0, .int .i64 0, .slice none 0 0], .int .i64 (-1)]) (by simp [results, Try.results42, go_sem, z0, z1, z2]) rfl (OdQ.none HBV.out HNO.out)
    · have ha0 : (ln : Int) ≤ (at0 : Int) := by omega
      have HNO : Hid (NoD ps l (s0, s1) at0) := NoD.past (by rw [HLN.out]; omega)
      have HGR := HG1.out.2.2
      have HV := set3_blk HGR (.int .i64 0) (.int .i64 0) (.slice none 0 0)
      have HBV : Hid (Below w.heap.size w (set3 w1 (g + 2) (.int .i64 0) (.int .i64 0) (.slice none 0 0))) := set3_bel HB1.out (by have := HGG.out; omega)
      have r0 := tcell_blk HGR 0
      have r1 := tcell_blk HGR 1
      have r2 := tcell_blk HGR 2
      have f0 := tfrozen_blk HGR 0
      have f1 := tfrozen_blk HGR 1
      have f2 := tfrozen_blk HGR 2
      simp only [List.getElem?_toArray, List.getElem?_cons_zero, List.getElem?_cons_succ] at r0 r1 r2
      go_wp2_with fail
      rw [← set3_eq]
      generalize set3 w1 (g + 2) (.int .i64 0) (.int .i64 0) (.slice none 0 0) = w9 at *
      have z0 := tcell_blk HV 0
      have z1 := tcell_blk HV 1
      have z2 := tcell_blk HV 2
      simp only [List.getElem?_toArray, List.getElem?_cons_zero, List.getElem?_cons_succ] at z0 z1 z2
      exact bodyPost_ret (v := .tuple #[.agg #[.int .i64 0, .int .i64 0, .slice none 0 0], .int .i64 (-1)]) (by simp [results, Try.results42, go_sem, z0, z1, z2]) rfl (OdQ.none HBV.out HNO.out)
end Go.Proofs.Ytldfiofgknmcgaa
