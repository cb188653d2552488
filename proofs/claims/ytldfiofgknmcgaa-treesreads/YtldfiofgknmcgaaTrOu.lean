/-
  The contract of pushref.ofUp: the node whose events end at a place, if there is one.
-/
import Derived.Test.YtldfiofgknmcgaaTrReadU
import Derived.Test.YtldfiofgknmcgaaTrOd
namespace Go.Proofs.Ytldfiofgknmcgaa
open Go.RowKit
open Cg

/-- What ofUp answers. -/
def OuR (ps : List Pd) (l : List Ev) (s : Sy) (en : Nat) (v : Value) (r : Int) (P : Nat → Prop) (W : World) : Prop := (∃ t a, RdU ps l s en t a ∧ r = ((a : Nat) : Int) ∧ Tx W P v t) ∨ (r = -1 ∧ v = .agg #[.int .i64 0, .int .i64 0, .slice none 0 0] ∧ NoU ps l s en)
theorem OuR.mono {ps : List Pd} {l : List Ev} {s : Sy} {en : Nat} {v : Value} {r : Int} {P Q : Nat → Prop} {W : World} (h : OuR ps l s en v r P W) (k : ∀ b, b < W.heap.size → P b → Q b) : OuR ps l s en v r Q W := by
  rcases h with ⟨t, a, h1, h2, h3⟩ | h
  · exact Or.inl ⟨t, a, h1, h2, h3.mono k⟩
  · exact Or.inr h
def OuQ (w : World) (ps : List Pd) (l : List Ev) (s : Sy) (en : Nat) (e : Ending) (w' : World) : Prop := ∃ p k a m c r, e = .returned (.tuple #[.agg #[.int .i64 p, .int .i64 k, .slice a m c], .int .i64 r]) ∧ Below w.heap.size w w' ∧ OuR ps l s en (.agg #[.int .i64 p, .int .i64 k, .slice a m c]) r (fun b => w.heap.size ≤ b) w'
theorem OuQ.none {w w' : World} {ps : List Pd} {l : List Ev} {s : Sy} {en : Nat} (h : Below w.heap.size w w') (k : NoU ps l s en) : OuQ w ps l s en (.returned (.tuple #[.agg #[.int .i64 0, .int .i64 0, .slice none 0 0], .int .i64 (-1)])) w' := ⟨_, _, _, _, _, _, rfl, h, Or.inr ⟨rfl, rfl, k⟩⟩
theorem OuQ.some {w w' : World} {ps : List Pd} {l : List Ev} {s : Sy} {en : Nat} {p k : Int} {a : Option Addr} {m c : Nat} {r : Int} {t : T} {a0 : Nat} (h : Below w.heap.size w w') (q : RdU ps l s en t a0) (hr : r = ((a0 : Nat) : Int)) (hx : Tx w' (fun b => w.heap.size ≤ b) (.agg #[.int .i64 p, .int .i64 k, .slice a m c]) t) : OuQ w ps l s en (.returned (.tuple #[.agg #[.int .i64 p, .int .i64 k, .slice a m c], .int .i64 r])) w' := ⟨_, _, _, _, _, _, rfl, h, Or.inl ⟨t, a0, q, hr, hx⟩⟩
/-- What ofUp holds in its loop. -/
structure OuH (w : World) (g kb : Nat) (tt n : Int) (ga : Option Addr) (gm gc : Nat) (s0 s1 : Int) (z bl q : Nat) (vals : Nat → Value) (ks : List T) (W : World) : Prop where
  bel : Below w.heap.size w W
  oh : Oh g tt n ga gm gc s0 s1 W
  ev : W.heap[g + 3]? = some (.cells #[.int .i64 4, .int .i64 (z : Int)] 41)
  ko : Ko W kb bl q vals
  tx : ∀ j (h : j < ks.length), Tx W (fun b => kb < b) (vals (q + j)) ks[j]
  ln : q + ks.length = bl
  gt : g + 3 < kb
  ge : w.heap.size ≤ kb
theorem RuL.len {ps : List Pd} {l : List Ev} {en q to1 : Nat} {body : List Sy} {ks : List T} (h : RuL ps l en body q to1 ks) (hq : q ≤ body.length) : q + ks.length = body.length := by
  have := shL_length h.s0
  rw [List.length_drop] at this
  omega
/-- One Kid more, from behind. -/
theorem OuH.next {w : World} {g kb : Nat} {tt n : Int} {ga : Option Addr} {gm gc : Nat} {s0 s1 : Int} {z bl q : Nat} {vals : Nat → Value} {ks : List T} {W V : World} (h : OuH w g kb tt n ga gm gc s0 s1 z bl (q + 1) vals ks W) (hb : Below W.heap.size W V) {p k : Int} {a : Option Addr} {m c : Nat} {t : T} (hx : Tx V (fun b => kb < b) (.agg #[.int .i64 p, .int .i64 k, .slice a m c]) t) :
    OuH w g kb tt n ga gm gc s0 s1 z bl q (fun j => if j = q then .agg #[.int .i64 p, .int .i64 k, .slice a m c] else vals j) (t :: ks) (set3o V kb (q * 3) (.int .i64 p) (.int .i64 k) (.slice a m c)) := by
  have hl := h.ln
  have hgt := h.gt
  have mv : ∀ {v : Value} {u : T}, Tx V (fun b => kb < b) v u → Tx (set3o V kb (q * 3) (.int .i64 p) (.int .i64 k) (.slice a m c)) (fun b => kb < b) v u := fun {v u} hx => hx.next (fun b _ hp => set3o_apart (by have hp2 : kb < b := hp; omega)) (Nat.le_of_eq (set3o_size _ _ _ _ _ _).symm)
  refine ⟨set3o_bel (h.bel.trans (hb.mono h.bel.size)) h.ge, ⟨?_, ?_, ?_⟩, ?_, (h.ko.next hb).set (by omega) _ _ _ rfl, fun j hj => ?_, by rw [List.length_cons]; omega, h.gt, h.ge⟩
  · rw [set3o_apart (by omega)]; exact tbox_next h.oh.1 hb
  · rw [set3o_apart (by omega)]; exact tbox_next h.oh.2.1 hb
  · rw [set3o_apart (by omega)]; exact tbox_next h.oh.2.2 hb
  · rw [set3o_apart (by omega)]; exact tbox_next h.ev hb
  · cases j with
    | zero =>
      show Tx _ _ (if q + 0 = q then _ else vals (q + 0)) t
      rw [if_pos (by omega)]
      exact mv hx
    | succ j =>
      show Tx _ _ (if q + (j + 1) = q then _ else vals (q + (j + 1))) (ks[j]'(by simpa using hj))
      rw [if_neg (by omega), show q + (j + 1) = q + 1 + j by omega]
      exact mv ((h.tx j (by simpa using hj)).bel hb)
/-- The node of all of them. -/
theorem OuH.node {w : World} {g kb : Nat} {tt n : Int} {ga : Option Addr} {gm gc : Nat} {s0 s1 : Int} {z bl : Nat} {vals : Nat → Value} {ks : List T} {W : World} (h : OuH w g kb tt n ga gm gc s0 s1 z bl 0 vals ks W) (hbl : bl ≤ 1000) : Tx W (fun b => kb ≤ b) (.agg #[.int .i64 (z : Int), .int .i64 0, .slice (some ⟨kb, 0, Option.none⟩) bl bl]) (.mk (z : Int) 0 ks) := by
  have hl := h.ln
  obtain ⟨cur, h1, h2, h3⟩ := h.ko
  have hx := Tx.mk (w := W) (P := fun b => kb ≤ b) (z : Int) 0 (some ⟨kb, 0, Option.none⟩) bl ks vals (by omega) (Or.inr ⟨kb, 0, rfl, Nat.le_refl _, heap_lt3 h1, fun i hi j hj => ?_⟩) (fun i hi => ?_)
  · rw [show ks.length = bl by omega] at hx; exact hx
  · rw [tcell_blk h1, Nat.zero_add]; exact h3 i (by omega) (by omega) j hj
  · have := h.tx i hi
    rw [Nat.zero_add] at this
    exact this.mono fun b _ hp => Nat.le_of_lt hp
structure RRu (ps : List Pd) (l : List Ev) (wr : World) (gx kb : Nat) (tt n : Int) (ga : Option Addr) (gm gc : Nat) (la : Option Addr) (ln lc sb so bl bc i : Nat) (x0 x1 : Int) (at1 : Nat) (tp : Int) (tk0 : Int) (ta : Option Addr) (tm : Nat) (tc : Nat) (rr : Int) (d : Nat → Bool) (x3 x82 x83 x84 x85 x86 x87 x88 x89 x90 x91 x92 x93 x94 x95 : Value) (W : World) : Prop where
  f0 : d 0 = true → x83 = (.slice (some ⟨kb, 0, none⟩) bl bl)
  f1 : d 1 = true → x84 = (.int .i64 (i : Int))
  f2 : d 2 = true → x85 = (.agg #[.int .i64 tt, .int .i64 n, .slice ga gm gc])
  f3 : d 3 = true → x86 = (.slice la ln lc)
  f4 : d 4 = true → x87 = (.slice (some ⟨sb, so, none⟩) bl bc)
  f5 : d 5 = true → x88 = (.int .i64 (i : Int))
  f6 : d 6 = true → x89 = (.pointer (some ⟨sb, so + i * 2, none⟩))
  f7 : d 7 = true → x90 = (.agg #[.int .i64 x0, .int .i64 x1])
  f8 : d 8 = true → x91 = (.int .i64 (at1 : Int))
  f9 : d 9 = true → x92 = (.tuple #[(.agg #[.int .i64 tp, .int .i64 tk0, .slice ta tm tc]), .int .i64 rr])
  f10 : d 10 = true → x82 = (.tuple #[(.agg #[.int .i64 tp, .int .i64 tk0, .slice ta tm tc]), .int .i64 rr])
  f11 : d 11 = true → x93 = (.agg #[.int .i64 tp, .int .i64 tk0, .slice ta tm tc])
  f12 : d 12 = true → x94 = (.int .i64 rr)
  f13 : d 13 = true → x95 = (.pointer (some ⟨kb, i * 3, none⟩))
  f14 : d 14 = true → True
  f15 : d 15 = true → x3 = (.int .i64 rr)
  o9_2 : d 9 = true → d 2 = true
  o9_7 : d 9 = true → d 7 = true
  o9_8 : d 9 = true → d 8 = true
  o10_9 : d 10 = true → d 9 = true
  o11_10 : d 11 = true → d 10 = true
  o12_10 : d 12 = true → d 10 = true
  o14_11 : d 14 = true → d 11 = true
  o15_12 : d 15 = true → d 12 = true
  s3 : d 15 = false → x3 = (.int .i64 (at1 : Int))
  bw : d 14 = false → Below wr.heap.size wr W
  r9 : d 9 = true → d 14 = false → OuR ps l (x0, x1) at1 (.agg #[.int .i64 tp, .int .i64 tk0, .slice ta tm tc]) rr (fun b => kb < b) W
  fin : d 14 = true → ∃ V, Below wr.heap.size wr V ∧ OuR ps l (x0, x1) at1 (.agg #[.int .i64 tp, .int .i64 tk0, .slice ta tm tc]) rr (fun b => kb < b) V ∧ W = (set3o V kb (i * 3) (.int .i64 tp) (.int .i64 tk0) (.slice ta tm tc))

set_option maxHeartbeats 8000000 in
set_option maxRecDepth 20000 in
theorem ofUp_all (ps : List Pd) (hbd : ∀ z : Nat, (bodyOf ps (z : Int)).length ≤ 1000) (l : List Ev) (hlm : l.length ≤ 100000) (tt n : Int) (m : Nat) : ∀ (en : Nat), en ≤ m → en ≤ l.length → ∀ (pv lv : Value) (s0 s1 : Int) (w : World), Pds w pv ps → Evs w lv l →
    Calls Try.prog 43 #[.agg #[.int .i64 tt, .int .i64 n, pv], lv, .agg #[.int .i64 s0, .int .i64 s1], .int .i64 (en : Int)] w fun e w' => OuQ w ps l (s0, s1) en e w' := by
  induction m with
  | zero =>
    intro en hm ha pv lv s0 s1 w hp h
    obtain rfl : en = 0 := by omega
    obtain ⟨ga, gc, rfl, -, -⟩ := hp
    obtain ⟨la, lc, rfl, -, -⟩ := h
    obtain ⟨gm, HGM⟩ : ∃ gm, Hid (ps.length = gm) := ⟨_, (rfl : ps.length = ps.length)⟩
    obtain ⟨ln, HLN⟩ : ∃ ln, Hid (l.length = ln) := ⟨_, (rfl : l.length = _)⟩
    rw [HGM.out, HLN.out]
    clear hm ha hlm
    have HB1 : Hid (Below w.heap.size w (((w.alloc (Obj.cells #[.int .i64 tt, .int .i64 n, .slice ga gm gc] 24)).alloc (Obj.cells #[.int .i64 s0, .int .i64 s1] 70)).alloc (Obj.cells #[.int .i64 0, .int .i64 0, .slice none 0 0] 27))) := by
      have h1 := below_alloc2 w (Obj.cells #[.int .i64 tt, .int .i64 n, .slice ga gm gc] 24) (Obj.cells #[.int .i64 s0, .int .i64 s1] 70)
      exact h1.trans ((below_alloc _ _).mono h1.size)
    have HG1 : Hid (Oh w.heap.size tt n ga gm gc s0 s1 (((w.alloc (Obj.cells #[.int .i64 tt, .int .i64 n, .slice ga gm gc] 24)).alloc (Obj.cells #[.int .i64 s0, .int .i64 s1] 70)).alloc (Obj.cells #[.int .i64 0, .int .i64 0, .slice none 0 0] 27))) := by
      have g1 := heap_alloc_new (w.alloc (Obj.cells #[.int .i64 tt, .int .i64 n, .slice ga gm gc] 24)) (Obj.cells #[.int .i64 s0, .int .i64 s1] 70)
      have g2 := heap_alloc_new ((w.alloc (Obj.cells #[.int .i64 tt, .int .i64 n, .slice ga gm gc] 24)).alloc (Obj.cells #[.int .i64 s0, .int .i64 s1] 70)) (Obj.cells #[.int .i64 0, .int .i64 0, .slice none 0 0] 27)
      rw [show (w.alloc (Obj.cells #[.int .i64 tt, .int .i64 n, .slice ga gm gc] 24)).heap.size = w.heap.size + 1 by simp] at g1
      rw [show ((w.alloc (Obj.cells #[.int .i64 tt, .int .i64 n, .slice ga gm gc] 24)).alloc (Obj.cells #[.int .i64 s0, .int .i64 s1] 70)).heap.size = w.heap.size + 2 by simp] at g2
      exact ⟨tbox_next (tbox_next (heap_alloc_new _ _) (below_alloc _ _)) (below_alloc _ _), tbox_next g1 (below_alloc _ _), g2⟩
    have HSZ1 : Hid ((((w.alloc (Obj.cells #[.int .i64 tt, .int .i64 n, .slice ga gm gc] 24)).alloc (Obj.cells #[.int .i64 s0, .int .i64 s1] 70)).alloc (Obj.cells #[.int .i64 0, .int .i64 0, .slice none 0 0] 27)).heap.size = w.heap.size + 3) := by show _ = _; simp
    go_enter Try.func43, Try.ntmps43
    go_upto_region 1 with fail
    generalize (((w.alloc (Obj.cells #[.int .i64 tt, .int .i64 n, .slice ga gm gc] 24)).alloc (Obj.cells #[.int .i64 s0, .int .i64 s1] 70)).alloc (Obj.cells #[.int .i64 0, .int .i64 0, .slice none 0 0] 27)) = w1 at HB1 HG1 HSZ1 ⊢
    obtain ⟨g, HGG⟩ : ∃ g, Hid (w.heap.size = g) := ⟨_, (rfl : w.heap.size = w.heap.size)⟩
    rw [HGG.out] at HG1 HSZ1 ⊢
    rw [show g + 1 + 1 = g + 2 by omega]
    have b0 := tcell_blk HG1.out.2.1 0
    have b1 := tcell_blk HG1.out.2.1 1
    have k2 := tcell_blk HG1.out.1 2
    simp only [List.getElem?_toArray, List.getElem?_cons_zero, List.getElem?_cons_succ] at b0 b1 k2
    have HNO : Hid (NoU ps l (s0, s1) 0) := NoU.zero
    have hb0 : (((0 : Nat) : Int) == 0) = true := rfl
    have HGR := HG1.out.2.2
    have HV := set3_blk HGR (.int .i64 0) (.int .i64 0) (.slice none 0 0)
    have HBV : Hid (Below w.heap.size w (set3 w1 (g + 2) (.int .i64 0) (.int .i64 0) (.slice none 0 0))) := set3_bel HB1.out (by have := HGG.out; omega)
    have r0 := tcell_blk HGR 0
    have r1 := tcell_blk HGR 1
    have r2 := tcell_blk HGR 2
    have f0 := tfrozen_blk HGR 0
    have f1 := tfrozen_blk HGR 1
    have f2 := tfrozen_blk HGR 2
    simp only [List.getElem?_toArray, List.getElem?_cons_zero, List.getElem?_cons_succ] at r0 r1 r2
    go_wp2_with fail
    rw [← set3_eq]
    generalize set3 w1 (g + 2) (.int .i64 0) (.int .i64 0) (.slice none 0 0) = w9 at *
    have z0 := tcell_blk HV 0
    have z1 := tcell_blk HV 1
    have z2 := tcell_blk HV 2
    simp only [List.getElem?_toArray, List.getElem?_cons_zero, List.getElem?_cons_succ] at z0 z1 z2
    exact bodyPost_ret (v := .tuple #[.agg #[.int .i64 0, .int .i64 0, .slice none 0 0], .int .i64 (-1)]) (by simp [results, Try.results43, go_sem, z0, z1, z2]) rfl (OuQ.none HBV.out HNO.out)
  | succ m ih =>
    intro en hm ha pv lv s0 s1 w hp h
    have HIH : Hid _ := ih
    clear ih
    have HP : Hid (Pds w pv ps) := hp
    have HL : Hid (Evs w lv l) := h
    obtain ⟨ga, gc, rfl, -, -⟩ := hp
    obtain ⟨la, lc, rfl, -, hlc⟩ := h
    have HLC : Hid (l = [] ∨ ∃ b o, la = some ⟨b, o, none⟩ ∧ b < w.heap.size ∧ ∀ i (hi : i < l.length), w.cell? ⟨b, o + i * 2, none⟩ = some (.int .i64 l[i].1) ∧ w.cell? ⟨b, o + i * 2 + 1, none⟩ = some (.int .i64 l[i].2)) := hlc
    clear hlc
    obtain ⟨gm, HGM⟩ : ∃ gm, Hid (ps.length = gm) := ⟨_, (rfl : ps.length = ps.length)⟩
    obtain ⟨ln, HLN⟩ : ∃ ln, Hid (l.length = ln) := ⟨_, (rfl : l.length = _)⟩
    rw [HGM.out] at HP ⊢
    rw [HLN.out] at HL ha hlm ⊢
    have HB1 : Hid (Below w.heap.size w (((w.alloc (Obj.cells #[.int .i64 tt, .int .i64 n, .slice ga gm gc] 24)).alloc (Obj.cells #[.int .i64 s0, .int .i64 s1] 70)).alloc (Obj.cells #[.int .i64 0, .int .i64 0, .slice none 0 0] 27))) := by
      have h1 := below_alloc2 w (Obj.cells #[.int .i64 tt, .int .i64 n, .slice ga gm gc] 24) (Obj.cells #[.int .i64 s0, .int .i64 s1] 70)
      exact h1.trans ((below_alloc _ _).mono h1.size)
    have HG1 : Hid (Oh w.heap.size tt n ga gm gc s0 s1 (((w.alloc (Obj.cells #[.int .i64 tt, .int .i64 n, .slice ga gm gc] 24)).alloc (Obj.cells #[.int .i64 s0, .int .i64 s1] 70)).alloc (Obj.cells #[.int .i64 0, .int .i64 0, .slice none 0 0] 27))) := by
      have g1 := heap_alloc_new (w.alloc (Obj.cells #[.int .i64 tt, .int .i64 n, .slice ga gm gc] 24)) (Obj.cells #[.int .i64 s0, .int .i64 s1] 70)
      have g2 := heap_alloc_new ((w.alloc (Obj.cells #[.int .i64 tt, .int .i64 n, .slice ga gm gc] 24)).alloc (Obj.cells #[.int .i64 s0, .int .i64 s1] 70)) (Obj.cells #[.int .i64 0, .int .i64 0, .slice none 0 0] 27)
      rw [show (w.alloc (Obj.cells #[.int .i64 tt, .int .i64 n, .slice ga gm gc] 24)).heap.size = w.heap.size + 1 by simp] at g1
      rw [show ((w.alloc (Obj.cells #[.int .i64 tt, .int .i64 n, .slice ga gm gc] 24)).alloc (Obj.cells #[.int .i64 s0, .int .i64 s1] 70)).heap.size = w.heap.size + 2 by simp] at g2
      exact ⟨tbox_next (tbox_next (heap_alloc_new _ _) (below_alloc _ _)) (below_alloc _ _), tbox_next g1 (below_alloc _ _), g2⟩
    have HSZ1 : Hid ((((w.alloc (Obj.cells #[.int .i64 tt, .int .i64 n, .slice ga gm gc] 24)).alloc (Obj.cells #[.int .i64 s0, .int .i64 s1] 70)).alloc (Obj.cells #[.int .i64 0, .int .i64 0, .slice none 0 0] 27)).heap.size = w.heap.size + 3) := by show _ = _; simp
    go_enter Try.func43, Try.ntmps43
    go_upto_region 1 with fail
    generalize (((w.alloc (Obj.cells #[.int .i64 tt, .int .i64 n, .slice ga gm gc] 24)).alloc (Obj.cells #[.int .i64 s0, .int .i64 s1] 70)).alloc (Obj.cells #[.int .i64 0, .int .i64 0, .slice none 0 0] 27)) = w1 at HB1 HG1 HSZ1 ⊢
    obtain ⟨g, HGG⟩ : ∃ g, Hid (w.heap.size = g) := ⟨_, (rfl : w.heap.size = w.heap.size)⟩
    rw [HGG.out] at HG1 HSZ1 ⊢
    rw [show g + 1 + 1 = g + 2 by omega]
    have b0 := tcell_blk HG1.out.2.1 0
    have b1 := tcell_blk HG1.out.2.1 1
    have k2 := tcell_blk HG1.out.1 2
    simp only [List.getElem?_toArray, List.getElem?_cons_zero, List.getElem?_cons_succ] at b0 b1 k2
    by_cases hen : 0 < en
    · obtain ⟨e1, rfl⟩ : ∃ e1, en = e1 + 1 := ⟨en - 1, by omega⟩
      have hll : e1 < l.length := by rw [HLN.out]; omega
      obtain ⟨lb, lo, rfl, q1, q2⟩ := HLC.out.resolve_left (by intro e; subst e; simp at hll)
      obtain ⟨x0, x1, HZ⟩ : ∃ x0 x1, Hid (l[e1] = (x0, x1)) := ⟨_, _, (rfl : l[e1] = _)⟩
      have HNK : Hid (s0 = 1 → x0 ≠ 2 → NoU ps l (s0, s1) (e1 + 1)) := fun h1 h2 => NoU.leaf hll h1 (by rw [HZ.out]; exact h2)
      have HN4 : Hid (s0 ≠ 1 → ¬ (x0 = 4 ∧ isPr ps x1 = true ∧ headOf ps x1 = s1) → NoU ps l (s0, s1) (e1 + 1)) := fun h1 h2 => NoU.kind hll h1 (by rw [HZ.out]; exact h2)
      have c1 : w1.cell? ⟨lb, lo + e1 * 2, none⟩ = some (.int .i64 l[e1].1) := (HB1.out.cell (p := ⟨lb, lo + e1 * 2, none⟩) q1).trans (q2 e1 hll).1
      have c2 : w1.cell? ⟨lb, lo + e1 * 2 + 1, none⟩ = some (.int .i64 l[e1].2) := (HB1.out.cell (p := ⟨lb, lo + e1 * 2 + 1, none⟩) q1).trans (q2 e1 hll).2
      rw [HZ.out] at c1 c2
      simp only at c1 c2
      clear q1 q2 HLC
      have hb0 : (((e1 + 1 : Nat) : Int) == 0) = false := by simp; omega
      have hsub : IntKind.i64.wrap (((e1 + 1 : Nat) : Int) - 1) = (e1 : Int) := by rw [IntKind.wrap_i64]; omega
      have hsub2 : wrap64 (((e1 + 1 : Nat) : Int) - 1) = (e1 : Int) := by rw [show ((e1 + 1 : Nat) : Int) - 1 = (e1 : Int) by omega]; exact Go.IntWalk.wrap64_in _ (by omega)
      obtain ⟨E, HE⟩ : ∃ E : Int, Hid (((e1 + 1 : Nat) : Int) = E) := ⟨_, (rfl : ((e1 + 1 : Nat) : Int) = _)⟩
      have hE : E = (e1 : Int) + 1 := by rw [← HE.out]; omega
      rw [HE.out] at hb0 hsub hsub2 ⊢
      have he1 : (e1 : Int) < (ln : Int) := by omega
      have he0 : (0 : Int) ≤ (e1 : Int) := by omega
      have HE2 : Hid (E - 1 = (e1 : Int)) := by show _ = _; omega
      clear hE
      have HB1b : Hid (Below w.heap.size w (w1.alloc (Obj.cells #[.int .i64 x0, .int .i64 x1] 41))) := HB1.out.trans ((below_alloc _ _).mono HB1.out.size)
      have HG1b : Hid (Oh g tt n ga gm gc s0 s1 (w1.alloc (Obj.cells #[.int .i64 x0, .int .i64 x1] 41))) := HG1.out.next (below_alloc _ _)
      have HEV : Hid ((w1.alloc (Obj.cells #[.int .i64 x0, .int .i64 x1] 41)).heap[w1.heap.size]? = some (.cells #[.int .i64 x0, .int .i64 x1] 41)) := heap_alloc_new _ _
      go_upto_region 4 with fail
      rw [HSZ1.out] at HEV ⊢
      generalize w1.alloc (Obj.cells #[.int .i64 x0, .int .i64 x1] 41) = w2 at HB1b HG1b HEV ⊢
      clear c1 c2 b0 b1 k2 HB1 HG1 HSZ1
      have b0 := tcell_blk HG1b.out.2.1 0
      have b1 := tcell_blk HG1b.out.2.1 1
      have k2 := tcell_blk HG1b.out.1 2
      have v0 := tcell_blk HEV.out 0
      have v1 := tcell_blk HEV.out 1
      simp only [List.getElem?_toArray, List.getElem?_cons_zero, List.getElem?_cons_succ] at b0 b1 k2 v0 v1
      by_cases h4 : s0 = 1
      · subst h4
        have hb1 : ((1 : Int) == 1) = true := rfl
        by_cases h2 : x0 = 2
        · subst h2
          have hb2 : ((2 : Int) != 2) = false := rfl
          have HRD : Hid (RdU ps l (1, s1) (e1 + 1) (.mk (-1) x1 []) e1) := by
            have := RdU.leaf (ps := ps) (s := (1, s1)) hll rfl (by rw [HZ.out])
            rw [HZ.out] at this
            exact this
          have HGR := HG1b.out.2.2
          have HV := set3_blk HGR (.int .i64 (-1)) (.int .i64 x1) (.slice none 0 0)
          have HBV : Hid (Below w.heap.size w (set3 w2 (g + 2) (.int .i64 (-1)) (.int .i64 x1) (.slice none 0 0))) := set3_bel HB1b.out (by have := HGG.out; omega)
          have r0 := tcell_blk HGR 0
          have r1 := tcell_blk HGR 1
          have r2 := tcell_blk HGR 2
          have f0 := tfrozen_blk HGR 0
          have f1 := tfrozen_blk HGR 1
          have f2 := tfrozen_blk HGR 2
          simp only [List.getElem?_toArray, List.getElem?_cons_zero, List.getElem?_cons_succ] at r0 r1 r2
          go_wp2_with fail
          rw [← set3_eq]
          generalize set3 w2 (g + 2) (.int .i64 (-1)) (.int .i64 x1) (.slice none 0 0) = w9 at *
          have z0 := tcell_blk HV 0
          have z1 := tcell_blk HV 1
          have z2 := tcell_blk HV 2
          simp only [List.getElem?_toArray, List.getElem?_cons_zero, List.getElem?_cons_succ] at z0 z1 z2
          exact bodyPost_ret (v := .tuple #[.agg #[.int .i64 (-1), .int .i64 x1, .slice none 0 0], .int .i64 (e1 : Int)]) (by simp [results, Try.results43, go_sem, z0, z1, z2]) rfl (OuQ.some HBV.out HRD.out rfl (Tx.mk (-1) x1 none 0 [] (fun _ => undef) (by simp) (Or.inl rfl) (fun i hi => absurd hi (Nat.not_lt_zero _))))
        · have hb2 : (x0 != 2) = true := by simp; exact h2
          have HNO : Hid (NoU ps l (1, s1) (e1 + 1)) := HNK.out rfl h2
          clear h2
          have HGR := HG1b.out.2.2
          have HV := set3_blk HGR (.int .i64 0) (.int .i64 0) (.slice none 0 0)
          have HBV : Hid (Below w.heap.size w (set3 w2 (g + 2) (.int .i64 0) (.int .i64 0) (.slice none 0 0))) := set3_bel HB1b.out (by have := HGG.out; omega)
          have r0 := tcell_blk HGR 0
          have r1 := tcell_blk HGR 1
          have r2 := tcell_blk HGR 2
          have f0 := tfrozen_blk HGR 0
          have f1 := tfrozen_blk HGR 1
          have f2 := tfrozen_blk HGR 2
          simp only [List.getElem?_toArray, List.getElem?_cons_zero, List.getElem?_cons_succ] at r0 r1 r2
          go_wp2_with fail
          rw [← set3_eq]
          generalize set3 w2 (g + 2) (.int .i64 0) (.int .i64 0) (.slice none 0 0) = w9 at *
          have z0 := tcell_blk HV 0
          have z1 := tcell_blk HV 1
          have z2 := tcell_blk HV 2
          simp only [List.getElem?_toArray, List.getElem?_cons_zero, List.getElem?_cons_succ] at z0 z1 z2
          exact bodyPost_ret (v := .tuple #[.agg #[.int .i64 0, .int .i64 0, .slice none 0 0], .int .i64 (-1)]) (by simp [results, Try.results43, go_sem, z0, z1, z2]) rfl (OuQ.none HBV.out HNO.out)
      · have hb1 : (s0 == 1) = false := by simp; exact h4
        have HN5 : Hid (¬ (x0 = 4 ∧ isPr ps x1 = true ∧ headOf ps x1 = s1) → NoU ps l (s0, s1) (e1 + 1)) := HN4.out h4
        have HS4 : Hid (s0 ≠ 1) := h4
        clear h4 HN4 HNK
        by_cases h1 : x0 = 4
        · subst h1
          have hb2 : ((4 : Int) != 4) = false := rfl
          by_cases h0 : x1 < 0
          · have hb3 : decide (x1 < 0) = true := by simp; exact h0
            have HNO : Hid (NoU ps l (s0, s1) (e1 + 1)) := HN5.out fun e => by have := isPr_le e.2.1; omega
            go_wp2_with fail
            go_quiet (fail)
            have HB2 : Hid (Below w.heap.size w (w2.drewN nq)) := HB1b.out.trans ((Go.Joins.below_draws _ _ _).mono HB1b.out.size)
            have HO2 : Hid (Oh g tt n ga gm gc s0 s1 (w2.drewN nq)) := HG1b.out.next (Go.Joins.below_draws _ _ _)
            have HE3 : Hid ((w2.drewN nq).heap[g + 3]? = some (.cells #[.int .i64 4, .int .i64 x1] 41)) := tbox_next HEV.out (Go.Joins.below_draws _ _ _)
            generalize w2.drewN nq = w3 at HB2 HO2 HE3 ⊢
            clear k2 b0 b1 v0 v1
            have HGR := HO2.out.2.2
            have HV := set3_blk HGR (.int .i64 0) (.int .i64 0) (.slice none 0 0)
            have HBV : Hid (Below w.heap.size w (set3 w3 (g + 2) (.int .i64 0) (.int .i64 0) (.slice none 0 0))) := set3_bel HB2.out (by have := HGG.out; omega)
            have r0 := tcell_blk HGR 0
            have r1 := tcell_blk HGR 1
            have r2 := tcell_blk HGR 2
            have f0 := tfrozen_blk HGR 0
            have f1 := tfrozen_blk HGR 1
            have f2 := tfrozen_blk HGR 2
            simp only [List.getElem?_toArray, List.getElem?_cons_zero, List.getElem?_cons_succ] at r0 r1 r2
            go_wp2_with fail
            rw [← set3_eq]
            generalize set3 w3 (g + 2) (.int .i64 0) (.int .i64 0) (.slice none 0 0) = w9 at *
            have z0 := tcell_blk HV 0
            have z1 := tcell_blk HV 1
            have z2 := tcell_blk HV 2
            simp only [List.getElem?_toArray, List.getElem?_cons_zero, List.getElem?_cons_succ] at z0 z1 z2
            exact bodyPost_ret (v := .tuple #[.agg #[.int .i64 0, .int .i64 0, .slice none 0 0], .int .i64 (-1)]) (by simp [results, Try.results43, go_sem, z0, z1, z2]) rfl (OuQ.none HBV.out HNO.out)
          · obtain ⟨z, rfl⟩ : ∃ z : Nat, x1 = (z : Int) := ⟨x1.toNat, by omega⟩
            have hb3 : decide ((z : Int) < 0) = false := by simp
            clear h0
            by_cases hz : z < gm
            · have hzI : (z : Int) < (gm : Int) := by omega
              have hz0 : (0 : Int) ≤ (z : Int) := by omega
              have hb4 : decide ((gm : Int) ≤ (z : Int)) = false := by simp; omega
              have hb4n : decide (gm ≤ z) = false := by simp; omega
              have hpr : isPr ps (z : Int) = true := by unfold isPr; rw [HGM.out]; simp; omega
              have HPR : Hid (isPr ps (z : Int) = true) := hpr
              obtain ⟨pb, po, bo, bc, rfl, -, hbl, hc0, hc1, hsy⟩ := Pds.prod HP.out hpr
              simp only [Int.toNat_natCast] at hc0 hc1
              clear hpr
              have d0 : w2.cell? ⟨pb, po + z * 2, none⟩ = some (.int .i64 (headOf ps (z : Int))) := (HB1b.out.cell (p := ⟨pb, po + z * 2, none⟩) hbl).trans hc0
              obtain ⟨hd, HHD⟩ : ∃ hd, Hid (headOf ps (z : Int) = hd) := ⟨_, (rfl : headOf ps (z : Int) = _)⟩
              rw [HHD.out] at d0 HN5
              have HBL := hbd z
              obtain ⟨bl, HBN⟩ : ∃ bl, Hid ((bodyOf ps (z : Int)).length = bl) := ⟨_, (rfl : (bodyOf ps (z : Int)).length = _)⟩
              rw [HBN.out] at hc1 hsy HBL
              have HPC0 : Hid (∀ W, Below w.heap.size w W → W.cell? ⟨pb, po + z * 2 + 1, none⟩ = some (.slice bo bl bc)) := fun W hb => (hb.cell (p := ⟨pb, po + z * 2 + 1, none⟩) hbl).trans hc1
              have HSY : Hid (Syms w (.slice bo bl bc) (bodyOf ps (z : Int))) := hsy
              clear hc0 hc1 hsy
              by_cases hh : hd = s1
              · subst hh
                have hb5 : (hd != hd) = false := by simp
                go_wp2_with fail
                go_quiet (fail)
                have HB2 : Hid (Below w.heap.size w (w2.drewN nq)) := HB1b.out.trans ((Go.Joins.below_draws _ _ _).mono HB1b.out.size)
                have HO2 : Hid (Oh g tt n (some ⟨pb, po, none⟩) gm gc s0 hd (w2.drewN nq)) := HG1b.out.next (Go.Joins.below_draws _ _ _)
                have HE3 : Hid ((w2.drewN nq).heap[g + 3]? = some (.cells #[.int .i64 4, .int .i64 (z : Int)] 41)) := tbox_next HEV.out (Go.Joins.below_draws _ _ _)
                generalize w2.drewN nq = w3 at HB2 HO2 HE3 ⊢
                clear k2 b0 b1 v0 v1
                clear d0
                have k2 := tcell_blk HO2.out.1 2
                have v1 := tcell_blk HE3.out 1
                simp only [List.getElem?_toArray, List.getElem?_cons_zero, List.getElem?_cons_succ] at k2 v1
                have d1 := HPC0.out w3 HB2.out
                have hmk := make27 bl HBL
                have HSTART0 : Hid (∃ vals ks, RuL ps l e1 (bodyOf ps (z : Int)) bl e1 ks ∧ OuH w g w3.heap.size tt n (some ⟨pb, po, none⟩) gm gc s0 hd z bl bl vals ks (w3.alloc (Obj.cells (madeCells #[.int .i64 0, .int .i64 0, .slice none 0 0] (bl * 3)) 27))) := by
                  refine ⟨fun _ => undef, [], by rw [← HBN.out]; exact RuL.start, ?_⟩
                  exact ⟨HB2.out.trans ((below_alloc _ _).mono HB2.out.size), HO2.out.next (below_alloc _ _), tbox_next HE3.out (below_alloc _ _), Ko.made _ _ _ _, fun j h => absurd h (Nat.not_lt_zero _), by simp, heap_lt3 HE3.out, HB2.out.size⟩
                go_upto_region 14 with fail
                obtain ⟨kb, HKB⟩ : ∃ kb, Hid (w3.heap.size = kb) := ⟨_, (rfl : w3.heap.size = _)⟩
                rw [HKB.out] at HSTART0 ⊢
                generalize (w3.alloc (Obj.cells (madeCells #[.int .i64 0, .int .i64 0, .slice none 0 0] (bl * 3)) 27)) = w4 at HSTART0 ⊢
                have HSTART : Hid (∃ vals ks, RuL ps l e1 (bodyOf ps (z : Int)) bl e1 ks ∧ OuH w g kb tt n (some ⟨pb, po, none⟩) gm gc s0 hd z bl bl vals ks w4) := HSTART0.out
                clear HB2 HO2 HE3 HKB HB1b HG1b HEV HSTART0 k2 v1 d1 hmk
                go_loopw [3, 13] (fun x y wr => ∃ (at1 q : Nat) (Y : Int), q ≤ bl ∧ at1 ≤ e1 ∧ Y = (q : Int) - 1 ∧ x = .int .i64 (at1 : Int) ∧ y = .int .i64 Y ∧ Hid (∃ vals ks, RuL ps l e1 (bodyOf ps (z : Int)) q at1 ks ∧ OuH w g kb tt n (some ⟨pb, po, none⟩) gm gc s0 hd z bl q vals ks wr)) (fun _ y _ => (intOf y + 1).toNat)
                case atStart => exact ⟨e1, bl, (bl : Int) - 1, by omega, by omega, rfl, by go_num, by go_num, HSTART⟩
                case round =>
                  obtain ⟨at1, q, Y, hq, ha1l, hY, rfl, rfl, HI⟩ := hrel
                  clear HSTART
                  obtain ⟨vals, ks, hrl, hod⟩ := HI.out
                  have HRL0 : Hid (RuL ps l e1 (bodyOf ps (z : Int)) q at1 ks) := hrl
                  have HOD0 : Hid (OuH w g kb tt n (some ⟨pb, po, none⟩) gm gc s0 hd z bl q vals ks wr) := hod
                  clear HI hrl hod
                  have HWR : Hid (Below w.heap.size w wr) := HOD0.out.bel
                  have HOR : Hid (Oh g tt n (some ⟨pb, po, none⟩) gm gc s0 hd wr) := HOD0.out.oh
                  by_cases hq0 : 0 < q
                  · obtain ⟨i, rfl⟩ : ∃ i, q = i + 1 := ⟨q - 1, by omega⟩
                    obtain rfl : Y = (i : Int) := by omega
                    have HRL : Hid (RuL ps l e1 (bodyOf ps (z : Int)) (i + 1) at1 ks) := HRL0.out
                    have HOD : Hid (OuH w g kb tt n (some ⟨pb, po, none⟩) gm gc s0 hd z bl (i + 1) vals ks wr) := HOD0.out
                    clear HRL0 HOD0 hY hq0
                    have hib : i < bl := by omega
                    have HIB : Hid (i < bl) := hib
                    have hib2 : i < (bodyOf ps (z : Int)).length := by rw [HBN.out]; exact hib
                    obtain ⟨bo2, bc2, hse, -, hsc⟩ := HSY.out
                    simp only [Value.slice.injEq] at hse
                    obtain ⟨rfl, -, rfl⟩ := hse
                    obtain ⟨sb, so, rfl, hsb, hsc⟩ := hsc.resolve_left (by intro e; rw [e] at hib2; simp at hib2)
                    obtain ⟨y0, y1, HY⟩ : ∃ y0 y1, Hid ((bodyOf ps (z : Int))[i] = (y0, y1)) := ⟨_, _, (rfl : (bodyOf ps (z : Int))[i] = _)⟩
                    obtain ⟨g0, g1⟩ := hsc i hib2
                    rw [HY.out] at g0 g1
                    simp only at g0 g1
                    have HSC : Hid (∀ W, Below w.heap.size w W → W.cell? ⟨sb, so + i * 2, none⟩ = some (.int .i64 y0) ∧ W.cell? ⟨sb, so + i * 2 + 1, none⟩ = some (.int .i64 y1)) := fun W hb => ⟨(hb.cell (p := ⟨sb, so + i * 2, none⟩) hsb).trans g0, (hb.cell (p := ⟨sb, so + i * 2 + 1, none⟩) hsb).trans g1⟩
                    clear hsc g0 g1
                    have hk1 : (i : Int) < (bl : Int) := by omega
                    have hk0 : (0 : Int) ≤ (i : Int) := by omega
                    have HCL : Hid (∀ W, Below wr.heap.size wr W → Calls Try.prog 43 #[(.agg #[.int .i64 tt, .int .i64 n, .slice (some ⟨pb, po, none⟩) gm gc]), (.slice (some ⟨lb, lo, none⟩) ln lc), .agg #[.int .i64 y0, .int .i64 y1], .int .i64 (at1 : Int)] W fun e w' => OuQ W ps l (y0, y1) at1 e w') := fun W hb => by
                      have h1 := HWR.out.trans (hb.mono HWR.out.size)
                      exact HIH.out at1 (by omega) (by rw [HLN.out]; omega) _ _ y0 y1 W (HP.out.below h1) (HL.out.below h1)
                    have HKO : Hid (Ko wr kb bl (i + 1) vals) := HOD.out.ko
                    have HKW : Hid (kb < wr.heap.size) := by
                      obtain ⟨cur, h1, -⟩ := HKO.out
                      exact heap_lt3 h1
                    go_upto_region 16 with fail
                    refine wp_region_free mixed (fun a0 d a W => ∃ (tp : Int) (tk0 : Int) (ta : Option Addr) (tm : Nat) (tc : Nat) (rr : Int) (x3 x82 x83 x84 x85 x86 x87 x88 x89 x90 x91 x92 x93 x94 x95 : Value), a = (((((((((((((((a0.put (some 3) x3).put (some 82) x82).put (some 83) x83).put (some 84) x84).put (some 85) x85).put (some 86) x86).put (some 87) x87).put (some 88) x88).put (some 89) x89).put (some 90) x90).put (some 91) x91).put (some 92) x92).put (some 93) x93).put (some 94) x94).put (some 95) x95) ∧ Hid (RRu ps l wr g kb tt n (some ⟨pb, po, none⟩) gm gc (some ⟨lb, lo, none⟩) ln lc sb so bl bc i y0 y1 at1 tp tk0 ta tm tc rr d x3 x82 x83 x84 x85 x86 x87 x88 x89 x90 x91 x92 x93 x94 x95 W)) (by kernel_rfl) ⟨0, 0, none, 0, 0, 0, (.int .i64 (at1 : Int)), u82, u83, u84, u85, u86, u87, u88, u89, u90, u91, u92, u93, u94, u95, by first | (simp only [Act.put, List.setIfInBounds_toArray, List.set_cons_zero, List.set_cons_succ]; done) | (simp only [Act.put, List.setIfInBounds_toArray, List.set_cons_zero, List.set_cons_succ]; rfl), ?_⟩ ?_ ?_
                    · exact ⟨fun h => no_way h, fun h => no_way h, fun h => no_way h, fun h => no_way h, fun h => no_way h, fun h => no_way h, fun h => no_way h, fun h => no_way h, fun h => no_way h, fun h => no_way h, fun h => no_way h, fun h => no_way h, fun h => no_way h, fun h => no_way h, fun _ => trivial, fun h => no_way h, fun h => no_way h, fun h => no_way h, fun h => no_way h, fun h => no_way h, fun h => no_way h, fun h => no_way h, fun h => no_way h, fun h => no_way h, fun _ => rfl, fun _ => (Below.refl _ _).drew, fun h => no_way h, fun h => no_way h⟩
                    · simp only [StepAll, and_true]
                      refine ⟨?_, ?_, ?_, ?_, ?_, ?_, ?_, ?_, ?_, ?_, ?_, ?_, ?_, ?_, ?_, ?_⟩
                      · intro d a W hI hd hdep
                        obtain ⟨tp, tk0, ta, tm, tc, rr, x3, x82, x83, x84, x85, x86, x87, x88, x89, x90, x91, x92, x93, x94, x95, rfl, hF⟩ := hI
                        clear hdep hd
                        intro K hK
                        simp only [Act.put, List.setIfInBounds_toArray, List.set_cons_zero, List.set_cons_succ]
                        go_simp
                        refine hK.out _ _ ⟨tp, tk0, ta, tm, tc, rr, x3, x82, (.slice (some ⟨kb, 0, none⟩) bl bl), x84, x85, x86, x87, x88, x89, x90, x91, x92, x93, x94, x95, by first | (simp only [Act.put, List.setIfInBounds_toArray, List.set_cons_zero, List.set_cons_succ]; done) | (simp only [Act.put, List.setIfInBounds_toArray, List.set_cons_zero, List.set_cons_succ]; rfl), ?_⟩
                        exact ⟨fun _ => rfl, fun h => hF.out.f1 (by simpa using h), fun h => hF.out.f2 (by simpa using h), fun h => hF.out.f3 (by simpa using h), fun h => hF.out.f4 (by simpa using h), fun h => hF.out.f5 (by simpa using h), fun h => hF.out.f6 (by simpa using h), fun h => hF.out.f7 (by simpa using h), fun h => hF.out.f8 (by simpa using h), fun h => hF.out.f9 (by simpa using h), fun h => hF.out.f10 (by simpa using h), fun h => hF.out.f11 (by simpa using h), fun h => hF.out.f12 (by simpa using h), fun h => hF.out.f13 (by simpa using h), fun h => hF.out.f14 (by simpa using h), fun h => hF.out.f15 (by simpa using h), fun h => by have := hF.out.o9_2 (by simpa using h); simpa using this, fun h => by have := hF.out.o9_7 (by simpa using h); simpa using this, fun h => by have := hF.out.o9_8 (by simpa using h); simpa using this, fun h => by have := hF.out.o10_9 (by simpa using h); simpa using this, fun h => by have := hF.out.o11_10 (by simpa using h); simpa using this, fun h => by have := hF.out.o12_10 (by simpa using h); simpa using this, fun h => by have := hF.out.o14_11 (by simpa using h); simpa using this, fun h => by have := hF.out.o15_12 (by simpa using h); simpa using this, fun h => hF.out.s3 (by simpa using h), fun h => hF.out.bw (by simpa using h), fun h h2 => hF.out.r9 (by simpa using h) (by simpa using h2), fun h => hF.out.fin (by simpa using h)⟩
                      · intro d a W hI hd hdep
                        obtain ⟨tp, tk0, ta, tm, tc, rr, x3, x82, x83, x84, x85, x86, x87, x88, x89, x90, x91, x92, x93, x94, x95, rfl, hF⟩ := hI
                        clear hdep hd
                        intro K hK
                        simp only [Act.put, List.setIfInBounds_toArray, List.set_cons_zero, List.set_cons_succ]
                        go_simp
                        refine hK.out _ _ ⟨tp, tk0, ta, tm, tc, rr, x3, x82, x83, (.int .i64 (i : Int)), x85, x86, x87, x88, x89, x90, x91, x92, x93, x94, x95, by first | (simp only [Act.put, List.setIfInBounds_toArray, List.set_cons_zero, List.set_cons_succ]; done) | (simp only [Act.put, List.setIfInBounds_toArray, List.set_cons_zero, List.set_cons_succ]; rfl), ?_⟩
                        exact ⟨fun h => hF.out.f0 (by simpa using h), fun _ => rfl, fun h => hF.out.f2 (by simpa using h), fun h => hF.out.f3 (by simpa using h), fun h => hF.out.f4 (by simpa using h), fun h => hF.out.f5 (by simpa using h), fun h => hF.out.f6 (by simpa using h), fun h => hF.out.f7 (by simpa using h), fun h => hF.out.f8 (by simpa using h), fun h => hF.out.f9 (by simpa using h), fun h => hF.out.f10 (by simpa using h), fun h => hF.out.f11 (by simpa using h), fun h => hF.out.f12 (by simpa using h), fun h => hF.out.f13 (by simpa using h), fun h => hF.out.f14 (by simpa using h), fun h => hF.out.f15 (by simpa using h), fun h => by have := hF.out.o9_2 (by simpa using h); simpa using this, fun h => by have := hF.out.o9_7 (by simpa using h); simpa using this, fun h => by have := hF.out.o9_8 (by simpa using h); simpa using this, fun h => by have := hF.out.o10_9 (by simpa using h); simpa using this, fun h => by have := hF.out.o11_10 (by simpa using h); simpa using this, fun h => by have := hF.out.o12_10 (by simpa using h); simpa using this, fun h => by have := hF.out.o14_11 (by simpa using h); simpa using this, fun h => by have := hF.out.o15_12 (by simpa using h); simpa using this, fun h => hF.out.s3 (by simpa using h), fun h => hF.out.bw (by simpa using h), fun h h2 => hF.out.r9 (by simpa using h) (by simpa using h2), fun h => hF.out.fin (by simpa using h)⟩
                      · intro d a W hI hd hdep
                        obtain ⟨tp, tk0, ta, tm, tc, rr, x3, x82, x83, x84, x85, x86, x87, x88, x89, x90, x91, x92, x93, x94, x95, rfl, hF⟩ := hI
                        have HD14 : Hid (d 14 = false) := no_later (fun h => hF.out.o9_2 (hF.out.o10_9 (hF.out.o11_10 (hF.out.o14_11 h)))) hd
                        have hbw := hF.out.bw HD14.out
                        have q0 := tcell_blk (tbox_next HOR.out.1 hbw) 0
                        have q1 := tcell_blk (tbox_next HOR.out.1 hbw) 1
                        have q2 := tcell_blk (tbox_next HOR.out.1 hbw) 2
                        clear hbw HD14
                        simp only [List.getElem?_toArray, List.getElem?_cons_zero, List.getElem?_cons_succ] at q0 q1 q2
                        clear hdep hd
                        intro K hK
                        simp only [Act.put, List.setIfInBounds_toArray, List.set_cons_zero, List.set_cons_succ]
                        go_simp
                        refine hK.out _ _ ⟨tp, tk0, ta, tm, tc, rr, x3, x82, x83, x84, (.agg #[.int .i64 tt, .int .i64 n, .slice (some ⟨pb, po, none⟩) gm gc]), x86, x87, x88, x89, x90, x91, x92, x93, x94, x95, by first | (simp only [Act.put, List.setIfInBounds_toArray, List.set_cons_zero, List.set_cons_succ]; done) | (simp only [Act.put, List.setIfInBounds_toArray, List.set_cons_zero, List.set_cons_succ]; rfl), ?_⟩
                        exact ⟨fun h => hF.out.f0 (by simpa using h), fun h => hF.out.f1 (by simpa using h), fun _ => rfl, fun h => hF.out.f3 (by simpa using h), fun h => hF.out.f4 (by simpa using h), fun h => hF.out.f5 (by simpa using h), fun h => hF.out.f6 (by simpa using h), fun h => hF.out.f7 (by simpa using h), fun h => hF.out.f8 (by simpa using h), fun h => hF.out.f9 (by simpa using h), fun h => hF.out.f10 (by simpa using h), fun h => hF.out.f11 (by simpa using h), fun h => hF.out.f12 (by simpa using h), fun h => hF.out.f13 (by simpa using h), fun h => hF.out.f14 (by simpa using h), fun h => hF.out.f15 (by simpa using h), fun _ => by simp, fun h => by have := hF.out.o9_7 (by simpa using h); simpa using this, fun h => by have := hF.out.o9_8 (by simpa using h); simpa using this, fun h => by have := hF.out.o10_9 (by simpa using h); simpa using this, fun h => by have := hF.out.o11_10 (by simpa using h); simpa using this, fun h => by have := hF.out.o12_10 (by simpa using h); simpa using this, fun h => by have := hF.out.o14_11 (by simpa using h); simpa using this, fun h => by have := hF.out.o15_12 (by simpa using h); simpa using this, fun h => hF.out.s3 (by simpa using h), fun h => hF.out.bw (by simpa using h), fun h h2 => hF.out.r9 (by simpa using h) (by simpa using h2), fun h => hF.out.fin (by simpa using h)⟩
                      · intro d a W hI hd hdep
                        obtain ⟨tp, tk0, ta, tm, tc, rr, x3, x82, x83, x84, x85, x86, x87, x88, x89, x90, x91, x92, x93, x94, x95, rfl, hF⟩ := hI
                        clear hdep hd
                        intro K hK
                        simp only [Act.put, List.setIfInBounds_toArray, List.set_cons_zero, List.set_cons_succ]
                        go_simp
                        refine hK.out _ _ ⟨tp, tk0, ta, tm, tc, rr, x3, x82, x83, x84, x85, (.slice (some ⟨lb, lo, none⟩) ln lc), x87, x88, x89, x90, x91, x92, x93, x94, x95, by first | (simp only [Act.put, List.setIfInBounds_toArray, List.set_cons_zero, List.set_cons_succ]; done) | (simp only [Act.put, List.setIfInBounds_toArray, List.set_cons_zero, List.set_cons_succ]; rfl), ?_⟩
                        exact ⟨fun h => hF.out.f0 (by simpa using h), fun h => hF.out.f1 (by simpa using h), fun h => hF.out.f2 (by simpa using h), fun _ => rfl, fun h => hF.out.f4 (by simpa using h), fun h => hF.out.f5 (by simpa using h), fun h => hF.out.f6 (by simpa using h), fun h => hF.out.f7 (by simpa using h), fun h => hF.out.f8 (by simpa using h), fun h => hF.out.f9 (by simpa using h), fun h => hF.out.f10 (by simpa using h), fun h => hF.out.f11 (by simpa using h), fun h => hF.out.f12 (by simpa using h), fun h => hF.out.f13 (by simpa using h), fun h => hF.out.f14 (by simpa using h), fun h => hF.out.f15 (by simpa using h), fun h => by have := hF.out.o9_2 (by simpa using h); simpa using this, fun h => by have := hF.out.o9_7 (by simpa using h); simpa using this, fun h => by have := hF.out.o9_8 (by simpa using h); simpa using this, fun h => by have := hF.out.o10_9 (by simpa using h); simpa using this, fun h => by have := hF.out.o11_10 (by simpa using h); simpa using this, fun h => by have := hF.out.o12_10 (by simpa using h); simpa using this, fun h => by have := hF.out.o14_11 (by simpa using h); simpa using this, fun h => by have := hF.out.o15_12 (by simpa using h); simpa using this, fun h => hF.out.s3 (by simpa using h), fun h => hF.out.bw (by simpa using h), fun h h2 => hF.out.r9 (by simpa using h) (by simpa using h2), fun h => hF.out.fin (by simpa using h)⟩
                      · intro d a W hI hd hdep
                        obtain ⟨tp, tk0, ta, tm, tc, rr, x3, x82, x83, x84, x85, x86, x87, x88, x89, x90, x91, x92, x93, x94, x95, rfl, hF⟩ := hI
                        clear hdep hd
                        intro K hK
                        simp only [Act.put, List.setIfInBounds_toArray, List.set_cons_zero, List.set_cons_succ]
                        go_simp
                        refine hK.out _ _ ⟨tp, tk0, ta, tm, tc, rr, x3, x82, x83, x84, x85, x86, (.slice (some ⟨sb, so, none⟩) bl bc), x88, x89, x90, x91, x92, x93, x94, x95, by first | (simp only [Act.put, List.setIfInBounds_toArray, List.set_cons_zero, List.set_cons_succ]; done) | (simp only [Act.put, List.setIfInBounds_toArray, List.set_cons_zero, List.set_cons_succ]; rfl), ?_⟩
                        exact ⟨fun h => hF.out.f0 (by simpa using h), fun h => hF.out.f1 (by simpa using h), fun h => hF.out.f2 (by simpa using h), fun h => hF.out.f3 (by simpa using h), fun _ => rfl, fun h => hF.out.f5 (by simpa using h), fun h => hF.out.f6 (by simpa using h), fun h => hF.out.f7 (by simpa using h), fun h => hF.out.f8 (by simpa using h), fun h => hF.out.f9 (by simpa using h), fun h => hF.out.f10 (by simpa using h), fun h => hF.out.f11 (by simpa using h), fun h => hF.out.f12 (by simpa using h), fun h => hF.out.f13 (by simpa using h), fun h => hF.out.f14 (by simpa using h), fun h => hF.out.f15 (by simpa using h), fun h => by have := hF.out.o9_2 (by simpa using h); simpa using this, fun h => by have := hF.out.o9_7 (by simpa using h); simpa using this, fun h => by have := hF.out.o9_8 (by simpa using h); simpa using this, fun h => by have := hF.out.o10_9 (by simpa using h); simpa using this, fun h => by have := hF.out.o11_10 (by simpa using h); simpa using this, fun h => by have := hF.out.o12_10 (by simpa using h); simpa using this, fun h => by have := hF.out.o14_11 (by simpa using h); simpa using this, fun h => by have := hF.out.o15_12 (by simpa using h); simpa using this, fun h => hF.out.s3 (by simpa using h), fun h => hF.out.bw (by simpa using h), fun h h2 => hF.out.r9 (by simpa using h) (by simpa using h2), fun h => hF.out.fin (by simpa using h)⟩
                      · intro d a W hI hd hdep
                        obtain ⟨tp, tk0, ta, tm, tc, rr, x3, x82, x83, x84, x85, x86, x87, x88, x89, x90, x91, x92, x93, x94, x95, rfl, hF⟩ := hI
                        clear hdep hd
                        intro K hK
                        simp only [Act.put, List.setIfInBounds_toArray, List.set_cons_zero, List.set_cons_succ]
                        go_simp
                        refine hK.out _ _ ⟨tp, tk0, ta, tm, tc, rr, x3, x82, x83, x84, x85, x86, x87, (.int .i64 (i : Int)), x89, x90, x91, x92, x93, x94, x95, by first | (simp only [Act.put, List.setIfInBounds_toArray, List.set_cons_zero, List.set_cons_succ]; done) | (simp only [Act.put, List.setIfInBounds_toArray, List.set_cons_zero, List.set_cons_succ]; rfl), ?_⟩
                        exact ⟨fun h => hF.out.f0 (by simpa using h), fun h => hF.out.f1 (by simpa using h), fun h => hF.out.f2 (by simpa using h), fun h => hF.out.f3 (by simpa using h), fun h => hF.out.f4 (by simpa using h), fun _ => rfl, fun h => hF.out.f6 (by simpa using h), fun h => hF.out.f7 (by simpa using h), fun h => hF.out.f8 (by simpa using h), fun h => hF.out.f9 (by simpa using h), fun h => hF.out.f10 (by simpa using h), fun h => hF.out.f11 (by simpa using h), fun h => hF.out.f12 (by simpa using h), fun h => hF.out.f13 (by simpa using h), fun h => hF.out.f14 (by simpa using h), fun h => hF.out.f15 (by simpa using h), fun h => by have := hF.out.o9_2 (by simpa using h); simpa using this, fun h => by have := hF.out.o9_7 (by simpa using h); simpa using this, fun h => by have := hF.out.o9_8 (by simpa using h); simpa using this, fun h => by have := hF.out.o10_9 (by simpa using h); simpa using this, fun h => by have := hF.out.o11_10 (by simpa using h); simpa using this, fun h => by have := hF.out.o12_10 (by simpa using h); simpa using this, fun h => by have := hF.out.o14_11 (by simpa using h); simpa using this, fun h => by have := hF.out.o15_12 (by simpa using h); simpa using this, fun h => hF.out.s3 (by simpa using h), fun h => hF.out.bw (by simpa using h), fun h h2 => hF.out.r9 (by simpa using h) (by simpa using h2), fun h => hF.out.fin (by simpa using h)⟩
                      · intro d a W hI hd hdep
                        obtain ⟨tp, tk0, ta, tm, tc, rr, x3, x82, x83, x84, x85, x86, x87, x88, x89, x90, x91, x92, x93, x94, x95, rfl, hF⟩ := hI
                        have hd4 : d 4 = true := dep_of hdep 4 (by kernel_rfl)
                        have hd5 : d 5 = true := dep_of hdep 5 (by kernel_rfl)
                        obtain rfl := hF.out.f4 hd4
                        obtain rfl := hF.out.f5 hd5
                        clear hdep hd hd4 hd5
                        intro K hK
                        simp only [Act.put, List.setIfInBounds_toArray, List.set_cons_zero, List.set_cons_succ]
                        go_simp
                        refine hK.out _ _ ⟨tp, tk0, ta, tm, tc, rr, x3, x82, x83, x84, x85, x86, (.slice (some ⟨sb, so, none⟩) bl bc), (.int .i64 (i : Int)), (.pointer (some ⟨sb, so + i * 2, none⟩)), x90, x91, x92, x93, x94, x95, by first | (simp only [Act.put, List.setIfInBounds_toArray, List.set_cons_zero, List.set_cons_succ]; done) | (simp only [Act.put, List.setIfInBounds_toArray, List.set_cons_zero, List.set_cons_succ]; rfl), ?_⟩
                        exact ⟨fun h => hF.out.f0 (by simpa using h), fun h => hF.out.f1 (by simpa using h), fun h => hF.out.f2 (by simpa using h), fun h => hF.out.f3 (by simpa using h), fun h => hF.out.f4 (by simpa using h), fun h => hF.out.f5 (by simpa using h), fun _ => rfl, fun h => hF.out.f7 (by simpa using h), fun h => hF.out.f8 (by simpa using h), fun h => hF.out.f9 (by simpa using h), fun h => hF.out.f10 (by simpa using h), fun h => hF.out.f11 (by simpa using h), fun h => hF.out.f12 (by simpa using h), fun h => hF.out.f13 (by simpa using h), fun h => hF.out.f14 (by simpa using h), fun h => hF.out.f15 (by simpa using h), fun h => by have := hF.out.o9_2 (by simpa using h); simpa using this, fun h => by have := hF.out.o9_7 (by simpa using h); simpa using this, fun h => by have := hF.out.o9_8 (by simpa using h); simpa using this, fun h => by have := hF.out.o10_9 (by simpa using h); simpa using this, fun h => by have := hF.out.o11_10 (by simpa using h); simpa using this, fun h => by have := hF.out.o12_10 (by simpa using h); simpa using this, fun h => by have := hF.out.o14_11 (by simpa using h); simpa using this, fun h => by have := hF.out.o15_12 (by simpa using h); simpa using this, fun h => hF.out.s3 (by simpa using h), fun h => hF.out.bw (by simpa using h), fun h h2 => hF.out.r9 (by simpa using h) (by simpa using h2), fun h => hF.out.fin (by simpa using h)⟩
                      · intro d a W hI hd hdep
                        obtain ⟨tp, tk0, ta, tm, tc, rr, x3, x82, x83, x84, x85, x86, x87, x88, x89, x90, x91, x92, x93, x94, x95, rfl, hF⟩ := hI
                        have hd6 : d 6 = true := dep_of hdep 6 (by kernel_rfl)
                        obtain rfl := hF.out.f6 hd6
                        have HD14 : Hid (d 14 = false) := no_later (fun h => hF.out.o9_7 (hF.out.o10_9 (hF.out.o11_10 (hF.out.o14_11 h)))) hd
                        have hbw := hF.out.bw HD14.out
                        have q2 := HSC.out W (HWR.out.trans (hbw.mono HWR.out.size))
                        have q3 := q2.1
                        have q4 := q2.2
                        clear q2 hbw HD14
                        clear hdep hd hd6
                        intro K hK
                        simp only [Act.put, List.setIfInBounds_toArray, List.set_cons_zero, List.set_cons_succ]
                        go_simp
                        refine hK.out _ _ ⟨tp, tk0, ta, tm, tc, rr, x3, x82, x83, x84, x85, x86, x87, x88, (.pointer (some ⟨sb, so + i * 2, none⟩)), (.agg #[.int .i64 y0, .int .i64 y1]), x91, x92, x93, x94, x95, by first | (simp only [Act.put, List.setIfInBounds_toArray, List.set_cons_zero, List.set_cons_succ]; done) | (simp only [Act.put, List.setIfInBounds_toArray, List.set_cons_zero, List.set_cons_succ]; rfl), ?_⟩
                        exact ⟨fun h => hF.out.f0 (by simpa using h), fun h => hF.out.f1 (by simpa using h), fun h => hF.out.f2 (by simpa using h), fun h => hF.out.f3 (by simpa using h), fun h => hF.out.f4 (by simpa using h), fun h => hF.out.f5 (by simpa using h), fun h => hF.out.f6 (by simpa using h), fun _ => rfl, fun h => hF.out.f8 (by simpa using h), fun h => hF.out.f9 (by simpa using h), fun h => hF.out.f10 (by simpa using h), fun h => hF.out.f11 (by simpa using h), fun h => hF.out.f12 (by simpa using h), fun h => hF.out.f13 (by simpa using h), fun h => hF.out.f14 (by simpa using h), fun h => hF.out.f15 (by simpa using h), fun h => by have := hF.out.o9_2 (by simpa using h); simpa using this, fun _ => by simp, fun h => by have := hF.out.o9_8 (by simpa using h); simpa using this, fun h => by have := hF.out.o10_9 (by simpa using h); simpa using this, fun h => by have := hF.out.o11_10 (by simpa using h); simpa using this, fun h => by have := hF.out.o12_10 (by simpa using h); simpa using this, fun h => by have := hF.out.o14_11 (by simpa using h); simpa using this, fun h => by have := hF.out.o15_12 (by simpa using h); simpa using this, fun h => hF.out.s3 (by simpa using h), fun h => hF.out.bw (by simpa using h), fun h h2 => hF.out.r9 (by simpa using h) (by simpa using h2), fun h => hF.out.fin (by simpa using h)⟩
                      · intro d a W hI hd hdep
                        obtain ⟨tp, tk0, ta, tm, tc, rr, x3, x82, x83, x84, x85, x86, x87, x88, x89, x90, x91, x92, x93, x94, x95, rfl, hF⟩ := hI
                        have HD15 : d 15 = false := no_later (fun h => hF.out.o9_8 (hF.out.o10_9 (hF.out.o12_10 (hF.out.o15_12 h)))) hd
                        obtain rfl := hF.out.s3 HD15
                        clear HD15
                        clear hdep hd
                        intro K hK
                        simp only [Act.put, List.setIfInBounds_toArray, List.set_cons_zero, List.set_cons_succ]
                        go_simp
                        refine hK.out _ _ ⟨tp, tk0, ta, tm, tc, rr, (.int .i64 (at1 : Int)), x82, x83, x84, x85, x86, x87, x88, x89, x90, (.int .i64 (at1 : Int)), x92, x93, x94, x95, by first | (simp only [Act.put, List.setIfInBounds_toArray, List.set_cons_zero, List.set_cons_succ]; done) | (simp only [Act.put, List.setIfInBounds_toArray, List.set_cons_zero, List.set_cons_succ]; rfl), ?_⟩
                        exact ⟨fun h => hF.out.f0 (by simpa using h), fun h => hF.out.f1 (by simpa using h), fun h => hF.out.f2 (by simpa using h), fun h => hF.out.f3 (by simpa using h), fun h => hF.out.f4 (by simpa using h), fun h => hF.out.f5 (by simpa using h), fun h => hF.out.f6 (by simpa using h), fun h => hF.out.f7 (by simpa using h), fun _ => rfl, fun h => hF.out.f9 (by simpa using h), fun h => hF.out.f10 (by simpa using h), fun h => hF.out.f11 (by simpa using h), fun h => hF.out.f12 (by simpa using h), fun h => hF.out.f13 (by simpa using h), fun h => hF.out.f14 (by simpa using h), fun h => hF.out.f15 (by simpa using h), fun h => by have := hF.out.o9_2 (by simpa using h); simpa using this, fun h => by have := hF.out.o9_7 (by simpa using h); simpa using this, fun _ => by simp, fun h => by have := hF.out.o10_9 (by simpa using h); simpa using this, fun h => by have := hF.out.o11_10 (by simpa using h); simpa using this, fun h => by have := hF.out.o12_10 (by simpa using h); simpa using this, fun h => by have := hF.out.o14_11 (by simpa using h); simpa using this, fun h => by have := hF.out.o15_12 (by simpa using h); simpa using this, fun _ => rfl, fun h => hF.out.bw (by simpa using h), fun h h2 => hF.out.r9 (by simpa using h) (by simpa using h2), fun h => hF.out.fin (by simpa using h)⟩
                      · intro d a W hI hd hdep
                        obtain ⟨tp, tk0, ta, tm, tc, rr, x3, x82, x83, x84, x85, x86, x87, x88, x89, x90, x91, x92, x93, x94, x95, rfl, hF⟩ := hI
                        have hd2 : d 2 = true := dep_of hdep 2 (by kernel_rfl)
                        have hd3 : d 3 = true := dep_of hdep 3 (by kernel_rfl)
                        have hd7 : d 7 = true := dep_of hdep 7 (by kernel_rfl)
                        have hd8 : d 8 = true := dep_of hdep 8 (by kernel_rfl)
                        obtain rfl := hF.out.f2 hd2
                        obtain rfl := hF.out.f3 hd3
                        obtain rfl := hF.out.f7 hd7
                        obtain rfl := hF.out.f8 hd8
                        have e9_2 := hd2
                        have e9_7 := hd7
                        have e9_8 := hd8
                        have HD10 : Hid (d 10 = false) := no_later (fun h => hF.out.o10_9 h) hd
                        have HD11 : Hid (d 11 = false) := no_later (fun h => hF.out.o10_9 (hF.out.o11_10 h)) hd
                        have HD12 : Hid (d 12 = false) := no_later (fun h => hF.out.o10_9 (hF.out.o12_10 h)) hd
                        have HD14 : Hid (d 14 = false) := no_later (fun h => hF.out.o10_9 (hF.out.o11_10 (hF.out.o14_11 h))) hd
                        have HD15 : Hid (d 15 = false) := no_later (fun h => hF.out.o10_9 (hF.out.o12_10 (hF.out.o15_12 h))) hd
                        have hbw0 := hF.out.bw HD14.out
                        clear hdep hd hd2 hd3 hd7 hd8
                        intro K hK
                        simp only [Act.put, List.setIfInBounds_toArray, List.set_cons_zero, List.set_cons_succ]
                        go_simp
                        refine (HCL.out W hbw0).mono ?_
                        rintro _ W2 ⟨tp2, tk2, ta2, tm2, tc2, rr2, rfl, hB, hbt⟩
                        have hbw : OuR ps l (y0, y1) at1 (.agg #[.int .i64 tp2, .int .i64 tk2, .slice ta2 tm2 tc2]) rr2 (fun b => kb < b) W2 := hbt.mono fun b _ hp => by have := hbw0.size; have := HKW.out; omega
                        clear hbt
                        go_simp
                        refine hK.out _ _ ⟨tp2, tk2, ta2, tm2, tc2, rr2, x3, x82, x83, x84, (.agg #[.int .i64 tt, .int .i64 n, .slice (some ⟨pb, po, none⟩) gm gc]), (.slice (some ⟨lb, lo, none⟩) ln lc), x87, x88, x89, (.agg #[.int .i64 y0, .int .i64 y1]), (.int .i64 (at1 : Int)), (.tuple #[(.agg #[.int .i64 tp2, .int .i64 tk2, .slice ta2 tm2 tc2]), .int .i64 rr2]), x93, x94, x95, by first | (simp only [Act.put, List.setIfInBounds_toArray, List.set_cons_zero, List.set_cons_succ]; done) | (simp only [Act.put, List.setIfInBounds_toArray, List.set_cons_zero, List.set_cons_succ]; rfl), ?_⟩
                        exact ⟨fun h => hF.out.f0 (by simpa using h), fun h => hF.out.f1 (by simpa using h), fun h => hF.out.f2 (by simpa using h), fun h => hF.out.f3 (by simpa using h), fun h => hF.out.f4 (by simpa using h), fun h => hF.out.f5 (by simpa using h), fun h => hF.out.f6 (by simpa using h), fun h => hF.out.f7 (by simpa using h), fun h => hF.out.f8 (by simpa using h), fun _ => rfl, fun h => by have := HD10.out; simp [this] at h, fun h => by have := HD11.out; simp [this] at h, fun h => by have := HD12.out; simp [this] at h, fun h => hF.out.f13 (by simpa using h), fun h => hF.out.f14 (by simpa using h), fun h => by have := HD15.out; simp [this] at h, fun _ => by simpa using e9_2, fun _ => by simpa using e9_7, fun _ => by simpa using e9_8, fun _ => by simp, fun h => by have := hF.out.o11_10 (by simpa using h); simpa using this, fun h => by have := hF.out.o12_10 (by simpa using h); simpa using this, fun h => by have := hF.out.o14_11 (by simpa using h); simpa using this, fun h => by have := hF.out.o15_12 (by simpa using h); simpa using this, fun h => hF.out.s3 (by simpa using h), fun _ => hbw0.trans (hB.mono hbw0.size), fun _ _ => hbw, fun h => by have := HD14.out; simp [this] at h⟩
                      · intro d a W hI hd hdep
                        obtain ⟨tp, tk0, ta, tm, tc, rr, x3, x82, x83, x84, x85, x86, x87, x88, x89, x90, x91, x92, x93, x94, x95, rfl, hF⟩ := hI
                        have hd9 : d 9 = true := dep_of hdep 9 (by kernel_rfl)
                        obtain rfl := hF.out.f9 hd9
                        have e10_9 := hd9
                        clear hdep hd hd9
                        intro K hK
                        simp only [Act.put, List.setIfInBounds_toArray, List.set_cons_zero, List.set_cons_succ]
                        go_simp
                        refine hK.out _ _ ⟨tp, tk0, ta, tm, tc, rr, x3, (.tuple #[(.agg #[.int .i64 tp, .int .i64 tk0, .slice ta tm tc]), .int .i64 rr]), x83, x84, x85, x86, x87, x88, x89, x90, x91, (.tuple #[(.agg #[.int .i64 tp, .int .i64 tk0, .slice ta tm tc]), .int .i64 rr]), x93, x94, x95, by first | (simp only [Act.put, List.setIfInBounds_toArray, List.set_cons_zero, List.set_cons_succ]; done) | (simp only [Act.put, List.setIfInBounds_toArray, List.set_cons_zero, List.set_cons_succ]; rfl), ?_⟩
                        exact ⟨fun h => hF.out.f0 (by simpa using h), fun h => hF.out.f1 (by simpa using h), fun h => hF.out.f2 (by simpa using h), fun h => hF.out.f3 (by simpa using h), fun h => hF.out.f4 (by simpa using h), fun h => hF.out.f5 (by simpa using h), fun h => hF.out.f6 (by simpa using h), fun h => hF.out.f7 (by simpa using h), fun h => hF.out.f8 (by simpa using h), fun h => hF.out.f9 (by simpa using h), fun _ => rfl, fun h => hF.out.f11 (by simpa using h), fun h => hF.out.f12 (by simpa using h), fun h => hF.out.f13 (by simpa using h), fun h => hF.out.f14 (by simpa using h), fun h => hF.out.f15 (by simpa using h), fun h => by have := hF.out.o9_2 (by simpa using h); simpa using this, fun h => by have := hF.out.o9_7 (by simpa using h); simpa using this, fun h => by have := hF.out.o9_8 (by simpa using h); simpa using this, fun _ => by simpa using e10_9, fun _ => by simp, fun _ => by simp, fun h => by have := hF.out.o14_11 (by simpa using h); simpa using this, fun h => by have := hF.out.o15_12 (by simpa using h); simpa using this, fun h => hF.out.s3 (by simpa using h), fun h => hF.out.bw (by simpa using h), fun h h2 => hF.out.r9 (by simpa using h) (by simpa using h2), fun h => hF.out.fin (by simpa using h)⟩
                      · intro d a W hI hd hdep
                        obtain ⟨tp, tk0, ta, tm, tc, rr, x3, x82, x83, x84, x85, x86, x87, x88, x89, x90, x91, x92, x93, x94, x95, rfl, hF⟩ := hI
                        have hd10 : d 10 = true := dep_of hdep 10 (by kernel_rfl)
                        obtain rfl := hF.out.f10 hd10
                        have e11_10 := hd10
                        clear hdep hd hd10
                        intro K hK
                        simp only [Act.put, List.setIfInBounds_toArray, List.set_cons_zero, List.set_cons_succ]
                        go_simp
                        refine hK.out _ _ ⟨tp, tk0, ta, tm, tc, rr, x3, (.tuple #[(.agg #[.int .i64 tp, .int .i64 tk0, .slice ta tm tc]), .int .i64 rr]), x83, x84, x85, x86, x87, x88, x89, x90, x91, x92, (.agg #[.int .i64 tp, .int .i64 tk0, .slice ta tm tc]), x94, x95, by first | (simp only [Act.put, List.setIfInBounds_toArray, List.set_cons_zero, List.set_cons_succ]; done) | (simp only [Act.put, List.setIfInBounds_toArray, List.set_cons_zero, List.set_cons_succ]; rfl), ?_⟩
                        exact ⟨fun h => hF.out.f0 (by simpa using h), fun h => hF.out.f1 (by simpa using h), fun h => hF.out.f2 (by simpa using h), fun h => hF.out.f3 (by simpa using h), fun h => hF.out.f4 (by simpa using h), fun h => hF.out.f5 (by simpa using h), fun h => hF.out.f6 (by simpa using h), fun h => hF.out.f7 (by simpa using h), fun h => hF.out.f8 (by simpa using h), fun h => hF.out.f9 (by simpa using h), fun h => hF.out.f10 (by simpa using h), fun _ => rfl, fun h => hF.out.f12 (by simpa using h), fun h => hF.out.f13 (by simpa using h), fun h => hF.out.f14 (by simpa using h), fun h => hF.out.f15 (by simpa using h), fun h => by have := hF.out.o9_2 (by simpa using h); simpa using this, fun h => by have := hF.out.o9_7 (by simpa using h); simpa using this, fun h => by have := hF.out.o9_8 (by simpa using h); simpa using this, fun h => by have := hF.out.o10_9 (by simpa using h); simpa using this, fun _ => by simpa using e11_10, fun h => by have := hF.out.o12_10 (by simpa using h); simpa using this, fun _ => by simp, fun h => by have := hF.out.o15_12 (by simpa using h); simpa using this, fun h => hF.out.s3 (by simpa using h), fun h => hF.out.bw (by simpa using h), fun h h2 => hF.out.r9 (by simpa using h) (by simpa using h2), fun h => hF.out.fin (by simpa using h)⟩
                      · intro d a W hI hd hdep
                        obtain ⟨tp, tk0, ta, tm, tc, rr, x3, x82, x83, x84, x85, x86, x87, x88, x89, x90, x91, x92, x93, x94, x95, rfl, hF⟩ := hI
                        have hd10 : d 10 = true := dep_of hdep 10 (by kernel_rfl)
                        obtain rfl := hF.out.f10 hd10
                        have e12_10 := hd10
                        clear hdep hd hd10
                        intro K hK
                        simp only [Act.put, List.setIfInBounds_toArray, List.set_cons_zero, List.set_cons_succ]
                        go_simp
                        refine hK.out _ _ ⟨tp, tk0, ta, tm, tc, rr, x3, (.tuple #[(.agg #[.int .i64 tp, .int .i64 tk0, .slice ta tm tc]), .int .i64 rr]), x83, x84, x85, x86, x87, x88, x89, x90, x91, x92, x93, (.int .i64 rr), x95, by first | (simp only [Act.put, List.setIfInBounds_toArray, List.set_cons_zero, List.set_cons_succ]; done) | (simp only [Act.put, List.setIfInBounds_toArray, List.set_cons_zero, List.set_cons_succ]; rfl), ?_⟩
                        exact ⟨fun h => hF.out.f0 (by simpa using h), fun h => hF.out.f1 (by simpa using h), fun h => hF.out.f2 (by simpa using h), fun h => hF.out.f3 (by simpa using h), fun h => hF.out.f4 (by simpa using h), fun h => hF.out.f5 (by simpa using h), fun h => hF.out.f6 (by simpa using h), fun h => hF.out.f7 (by simpa using h), fun h => hF.out.f8 (by simpa using h), fun h => hF.out.f9 (by simpa using h), fun h => hF.out.f10 (by simpa using h), fun h => hF.out.f11 (by simpa using h), fun _ => rfl, fun h => hF.out.f13 (by simpa using h), fun h => hF.out.f14 (by simpa using h), fun h => hF.out.f15 (by simpa using h), fun h => by have := hF.out.o9_2 (by simpa using h); simpa using this, fun h => by have := hF.out.o9_7 (by simpa using h); simpa using this, fun h => by have := hF.out.o9_8 (by simpa using h); simpa using this, fun h => by have := hF.out.o10_9 (by simpa using h); simpa using this, fun h => by have := hF.out.o11_10 (by simpa using h); simpa using this, fun _ => by simpa using e12_10, fun h => by have := hF.out.o14_11 (by simpa using h); simpa using this, fun _ => by simp, fun h => hF.out.s3 (by simpa using h), fun h => hF.out.bw (by simpa using h), fun h h2 => hF.out.r9 (by simpa using h) (by simpa using h2), fun h => hF.out.fin (by simpa using h)⟩
                      · intro d a W hI hd hdep
                        obtain ⟨tp, tk0, ta, tm, tc, rr, x3, x82, x83, x84, x85, x86, x87, x88, x89, x90, x91, x92, x93, x94, x95, rfl, hF⟩ := hI
                        have hd0 : d 0 = true := dep_of hdep 0 (by kernel_rfl)
                        have hd1 : d 1 = true := dep_of hdep 1 (by kernel_rfl)
                        obtain rfl := hF.out.f0 hd0
                        obtain rfl := hF.out.f1 hd1
                        clear hdep hd hd0 hd1
                        intro K hK
                        simp only [Act.put, List.setIfInBounds_toArray, List.set_cons_zero, List.set_cons_succ]
                        go_simp
                        refine hK.out _ _ ⟨tp, tk0, ta, tm, tc, rr, x3, x82, (.slice (some ⟨kb, 0, none⟩) bl bl), (.int .i64 (i : Int)), x85, x86, x87, x88, x89, x90, x91, x92, x93, x94, (.pointer (some ⟨kb, i * 3, none⟩)), by first | (simp only [Act.put, List.setIfInBounds_toArray, List.set_cons_zero, List.set_cons_succ]; done) | (simp only [Act.put, List.setIfInBounds_toArray, List.set_cons_zero, List.set_cons_succ]; rfl), ?_⟩
                        exact ⟨fun h => hF.out.f0 (by simpa using h), fun h => hF.out.f1 (by simpa using h), fun h => hF.out.f2 (by simpa using h), fun h => hF.out.f3 (by simpa using h), fun h => hF.out.f4 (by simpa using h), fun h => hF.out.f5 (by simpa using h), fun h => hF.out.f6 (by simpa using h), fun h => hF.out.f7 (by simpa using h), fun h => hF.out.f8 (by simpa using h), fun h => hF.out.f9 (by simpa using h), fun h => hF.out.f10 (by simpa using h), fun h => hF.out.f11 (by simpa using h), fun h => hF.out.f12 (by simpa using h), fun _ => rfl, fun h => hF.out.f14 (by simpa using h), fun h => hF.out.f15 (by simpa using h), fun h => by have := hF.out.o9_2 (by simpa using h); simpa using this, fun h => by have := hF.out.o9_7 (by simpa using h); simpa using this, fun h => by have := hF.out.o9_8 (by simpa using h); simpa using this, fun h => by have := hF.out.o10_9 (by simpa using h); simpa using this, fun h => by have := hF.out.o11_10 (by simpa using h); simpa using this, fun h => by have := hF.out.o12_10 (by simpa using h); simpa using this, fun h => by have := hF.out.o14_11 (by simpa using h); simpa using this, fun h => by have := hF.out.o15_12 (by simpa using h); simpa using this, fun h => hF.out.s3 (by simpa using h), fun h => hF.out.bw (by simpa using h), fun h h2 => hF.out.r9 (by simpa using h) (by simpa using h2), fun h => hF.out.fin (by simpa using h)⟩
                      · intro d a W hI hd hdep
                        obtain ⟨tp, tk0, ta, tm, tc, rr, x3, x82, x83, x84, x85, x86, x87, x88, x89, x90, x91, x92, x93, x94, x95, rfl, hF⟩ := hI
                        have hd11 : d 11 = true := dep_of hdep 11 (by kernel_rfl)
                        have hd13 : d 13 = true := dep_of hdep 13 (by kernel_rfl)
                        obtain rfl := hF.out.f11 hd11
                        obtain rfl := hF.out.f13 hd13
                        have e14_11 := hd11
                        have hr9 := hF.out.r9 (hF.out.o10_9 (hF.out.o11_10 hd11)) hd
                        have hbw := hF.out.bw hd
                        have hko := HKO.out.next hbw
                        obtain ⟨u0, q0, f0⟩ := hko.at (i * 3) (by have := HIB.out; omega)
                        obtain ⟨u1, q1, f1⟩ := hko.at (i * 3 + 1) (by have := HIB.out; omega)
                        obtain ⟨u2, q2, f2⟩ := hko.at (i * 3 + 2) (by have := HIB.out; omega)
                        clear hko
                        clear hdep hd hd11 hd13
                        intro K hK
                        simp only [Act.put, List.setIfInBounds_toArray, List.set_cons_zero, List.set_cons_succ]
                        go_simp
                        refine hK.out _ _ ⟨tp, tk0, ta, tm, tc, rr, x3, x82, x83, x84, x85, x86, x87, x88, x89, x90, x91, x92, (.agg #[.int .i64 tp, .int .i64 tk0, .slice ta tm tc]), x94, (.pointer (some ⟨kb, i * 3, none⟩)), by first | (simp only [Act.put, List.setIfInBounds_toArray, List.set_cons_zero, List.set_cons_succ]; done) | (simp only [Act.put, List.setIfInBounds_toArray, List.set_cons_zero, List.set_cons_succ]; rfl), ?_⟩
                        rw [← set3o_eq]
                        exact ⟨fun h => hF.out.f0 (by simpa using h), fun h => hF.out.f1 (by simpa using h), fun h => hF.out.f2 (by simpa using h), fun h => hF.out.f3 (by simpa using h), fun h => hF.out.f4 (by simpa using h), fun h => hF.out.f5 (by simpa using h), fun h => hF.out.f6 (by simpa using h), fun h => hF.out.f7 (by simpa using h), fun h => hF.out.f8 (by simpa using h), fun h => hF.out.f9 (by simpa using h), fun h => hF.out.f10 (by simpa using h), fun h => hF.out.f11 (by simpa using h), fun h => hF.out.f12 (by simpa using h), fun h => hF.out.f13 (by simpa using h), fun _ => trivial, fun h => hF.out.f15 (by simpa using h), fun h => by have := hF.out.o9_2 (by simpa using h); simpa using this, fun h => by have := hF.out.o9_7 (by simpa using h); simpa using this, fun h => by have := hF.out.o9_8 (by simpa using h); simpa using this, fun h => by have := hF.out.o10_9 (by simpa using h); simpa using this, fun h => by have := hF.out.o11_10 (by simpa using h); simpa using this, fun h => by have := hF.out.o12_10 (by simpa using h); simpa using this, fun _ => by simpa using e14_11, fun h => by have := hF.out.o15_12 (by simpa using h); simpa using this, fun h => hF.out.s3 (by simpa using h), fun h => by simp at h, fun _ h => by simp at h, fun _ => ⟨W, hbw, hr9, rfl⟩⟩
                      · intro d a W hI hd hdep
                        obtain ⟨tp, tk0, ta, tm, tc, rr, x3, x82, x83, x84, x85, x86, x87, x88, x89, x90, x91, x92, x93, x94, x95, rfl, hF⟩ := hI
                        have hd12 : d 12 = true := dep_of hdep 12 (by kernel_rfl)
                        obtain rfl := hF.out.f12 hd12
                        have e15_12 := hd12
                        clear hdep hd hd12
                        intro K hK
                        simp only [Act.put, List.setIfInBounds_toArray, List.set_cons_zero, List.set_cons_succ]
                        go_simp
                        refine hK.out _ _ ⟨tp, tk0, ta, tm, tc, rr, (.int .i64 rr), x82, x83, x84, x85, x86, x87, x88, x89, x90, x91, x92, x93, (.int .i64 rr), x95, by first | (simp only [Act.put, List.setIfInBounds_toArray, List.set_cons_zero, List.set_cons_succ]; done) | (simp only [Act.put, List.setIfInBounds_toArray, List.set_cons_zero, List.set_cons_succ]; rfl), ?_⟩
                        exact ⟨fun h => hF.out.f0 (by simpa using h), fun h => hF.out.f1 (by simpa using h), fun h => hF.out.f2 (by simpa using h), fun h => hF.out.f3 (by simpa using h), fun h => hF.out.f4 (by simpa using h), fun h => hF.out.f5 (by simpa using h), fun h => hF.out.f6 (by simpa using h), fun h => hF.out.f7 (by simpa using h), fun h => hF.out.f8 (by simpa using h), fun h => hF.out.f9 (by simpa using h), fun h => hF.out.f10 (by simpa using h), fun h => hF.out.f11 (by simpa using h), fun h => hF.out.f12 (by simpa using h), fun h => hF.out.f13 (by simpa using h), fun h => hF.out.f14 (by simpa using h), fun _ => rfl, fun h => by have := hF.out.o9_2 (by simpa using h); simpa using this, fun h => by have := hF.out.o9_7 (by simpa using h); simpa using this, fun h => by have := hF.out.o9_8 (by simpa using h); simpa using this, fun h => by have := hF.out.o10_9 (by simpa using h); simpa using this, fun h => by have := hF.out.o11_10 (by simpa using h); simpa using this, fun h => by have := hF.out.o12_10 (by simpa using h); simpa using this, fun h => by have := hF.out.o14_11 (by simpa using h); simpa using this, fun _ => by simpa using e15_12, fun h => by simp at h, fun h => hF.out.bw (by simpa using h), fun h h2 => hF.out.r9 (by simpa using h) (by simpa using h2), fun h => hF.out.fin (by simpa using h)⟩
                    · intro d a W hI hall
                      obtain ⟨tp, tk0, ta, tm, tc, rr, x3, x82, x83, x84, x85, x86, x87, x88, x89, x90, x91, x92, x93, x94, x95, rfl, hF⟩ := hI
                      simp only [List.length_cons, List.length_nil] at hall
                      obtain rfl := hF.out.f0 (hall 0 (by omega))
                      obtain rfl := hF.out.f1 (hall 1 (by omega))
                      obtain rfl := hF.out.f2 (hall 2 (by omega))
                      obtain rfl := hF.out.f3 (hall 3 (by omega))
                      obtain rfl := hF.out.f4 (hall 4 (by omega))
                      obtain rfl := hF.out.f5 (hall 5 (by omega))
                      obtain rfl := hF.out.f6 (hall 6 (by omega))
                      obtain rfl := hF.out.f7 (hall 7 (by omega))
                      obtain rfl := hF.out.f8 (hall 8 (by omega))
                      obtain rfl := hF.out.f9 (hall 9 (by omega))
                      obtain rfl := hF.out.f10 (hall 10 (by omega))
                      obtain rfl := hF.out.f11 (hall 11 (by omega))
                      obtain rfl := hF.out.f12 (hall 12 (by omega))
                      obtain rfl := hF.out.f13 (hall 13 (by omega))
                      obtain rfl := hF.out.f15 (hall 15 (by omega))
                      obtain ⟨V, HVB, HRX, rfl⟩ := hF.out.fin (hall 14 (by omega))
                      replace HVB : Hid (Below wr.heap.size wr V) := HVB
                      clear hF hall
                      simp only [Act.put, List.setIfInBounds_toArray, List.set_cons_zero, List.set_cons_succ]
                      rcases HRX with ⟨t, a, hrd, rfl, htx⟩ | ⟨rfl, hze, hno⟩
                      · have HRL2 : Hid (RuL ps l e1 (bodyOf ps (z : Int)) i a (t :: ks)) := HRL.out.next hib2 (by rw [HY.out]; exact hrd)
                        have HON : Hid (∃ vals ks, RuL ps l e1 (bodyOf ps (z : Int)) i a ks ∧ OuH w g kb tt n (some ⟨pb, po, none⟩) gm gc s0 hd z bl i vals ks (set3o V kb (i * 3) (.int .i64 tp) (.int .i64 tk0) (.slice ta tm tc))) := ⟨_, _, HRL2.out, HOD.out.next HVB.out htx⟩
                        have hal : a ≤ e1 := HRL2.out.le
                        clear hrd htx
                        generalize set3o V kb (i * 3) (.int .i64 tp) (.int .i64 tk0) (.slice ta tm tc) = w8 at HON ⊢
                        have hq : ¬ (a : Int) < 0 := by omega
                        go_wp2_with fail
                        go_roundw
                        case rel => exact ⟨a, i, (i : Int) - 1, by omega, hal, rfl, rfl, by go_num, HON⟩
                        case measure => first | (simp [intOf]; done) | (simp [intOf]; omega)
                      · have HNO : Hid (NoU ps l (s0, hd) (e1 + 1)) := HRL.out.stop hll HS4.out HZ.out hib2 (by rw [HY.out]; exact hno)
                        have htx : Tx V (fun b => kb < b) (.agg #[.int .i64 tp, .int .i64 tk0, .slice ta tm tc]) (.mk 0 0 []) := by
                          rw [hze]
                          exact Tx.mk 0 0 none 0 [] (fun _ => undef) (by simp) (Or.inl rfl) (fun i hi => absurd hi (Nat.not_lt_zero _))
                        have hon := HOD.out.next HVB.out htx
                        have HB8 : Hid (Below w.heap.size w (set3o V kb (i * 3) (.int .i64 tp) (.int .i64 tk0) (.slice ta tm tc))) := hon.bel
                        have HO8 : Hid (Oh g tt n (some ⟨pb, po, none⟩) gm gc s0 hd (set3o V kb (i * 3) (.int .i64 tp) (.int .i64 tk0) (.slice ta tm tc))) := hon.oh
                        clear hno hze htx hon
                        generalize set3o V kb (i * 3) (.int .i64 tp) (.int .i64 tk0) (.slice ta tm tc) = w8 at HB8 HO8 ⊢
                        have HGR := HO8.out.2.2
                        have HV := set3_blk HGR (.int .i64 0) (.int .i64 0) (.slice none 0 0)
                        have HBV : Hid (Below w.heap.size w (set3 w8 (g + 2) (.int .i64 0) (.int .i64 0) (.slice none 0 0))) := set3_bel HB8.out (by have := HGG.out; omega)
                        have r0 := tcell_blk HGR 0
                        have r1 := tcell_blk HGR 1
                        have r2 := tcell_blk HGR 2
                        have f0 := tfrozen_blk HGR 0
                        have f1 := tfrozen_blk HGR 1
                        have f2 := tfrozen_blk HGR 2
                        simp only [List.getElem?_toArray, List.getElem?_cons_zero, List.getElem?_cons_succ] at r0 r1 r2
                        go_wp2_with fail
                        rw [← set3_eq]
                        generalize set3 w8 (g + 2) (.int .i64 0) (.int .i64 0) (.slice none 0 0) = w9 at *
                        have z0 := tcell_blk HV 0
                        have z1 := tcell_blk HV 1
                        have z2 := tcell_blk HV 2
                        simp only [List.getElem?_toArray, List.getElem?_cons_zero, List.getElem?_cons_succ] at z0 z1 z2
                        exact bodyPost_ret (v := .tuple #[.agg #[.int .i64 0, .int .i64 0, .slice none 0 0], .int .i64 (-1)]) (by simp [results, Try.results43, go_sem, z0, z1, z2]) rfl (OuQ.none HBV.out HNO.out)
                  · obtain rfl : q = 0 := by omega
                    have hk1 : ¬ (0 : Int) ≤ Y := by omega
                    clear hY
                    have HDONE : Hid (RdU ps l (s0, hd) (e1 + 1) (.mk (z : Int) 0 ks) at1) := HRL0.out.done (s := (s0, hd)) hll HS4.out HZ.out HPR.out HHD.out
                    have HTX0 : Hid (Tx wr (fun b => kb ≤ b) (.agg #[.int .i64 (z : Int), .int .i64 0, .slice (some ⟨kb, 0, none⟩) bl bl]) (.mk (z : Int) 0 ks)) := HOD0.out.node HBL
                    have HTXF : Hid (Tx (set3 wr (g + 2) (.int .i64 (z : Int)) (.int .i64 0) (.slice (some ⟨kb, 0, none⟩) bl bl)) (fun b => w.heap.size ≤ b) (.agg #[.int .i64 (z : Int), .int .i64 0, .slice (some ⟨kb, 0, none⟩) bl bl]) (.mk (z : Int) 0 ks)) := by
                      refine (HTX0.out.next (fun b _ hp => set3_apart2 ?_) (by simp [set3, World.setCell])).mono fun b _ hp => ?_
                      · have := HOD0.out.gt; have hp2 : kb ≤ b := hp; omega
                      · have := HOD0.out.ge; have hp2 : kb ≤ b := hp; omega
                    have v1 := tcell_blk HOD0.out.ev 1
                    simp only [List.getElem?_toArray, List.getElem?_cons_zero, List.getElem?_cons_succ] at v1
                    have HGR := HOR.out.2.2
                    have HV := set3_blk HGR (.int .i64 (z : Int)) (.int .i64 0) (.slice (some ⟨kb, 0, none⟩) bl bl)
                    have HBV : Hid (Below w.heap.size w (set3 wr (g + 2) (.int .i64 (z : Int)) (.int .i64 0) (.slice (some ⟨kb, 0, none⟩) bl bl))) := set3_bel HWR.out (by have := HGG.out; omega)
                    have r0 := tcell_blk HGR 0
                    have r1 := tcell_blk HGR 1
                    have r2 := tcell_blk HGR 2
                    have f0 := tfrozen_blk HGR 0
                    have f1 := tfrozen_blk HGR 1
                    have f2 := tfrozen_blk HGR 2
                    simp only [List.getElem?_toArray, List.getElem?_cons_zero, List.getElem?_cons_succ] at r0 r1 r2
                    go_wp2_with fail
                    rw [← set3_eq]
                    generalize set3 wr (g + 2) (.int .i64 (z : Int)) (.int .i64 0) (.slice (some ⟨kb, 0, none⟩) bl bl) = w9 at *
                    have z0 := tcell_blk HV 0
                    have z1 := tcell_blk HV 1
                    have z2 := tcell_blk HV 2
                    simp only [List.getElem?_toArray, List.getElem?_cons_zero, List.getElem?_cons_succ] at z0 z1 z2
                    exact bodyPost_ret (v := .tuple #[.agg #[.int .i64 (z : Int), .int .i64 0, .slice (some ⟨kb, 0, none⟩) bl bl], .int .i64 (at1 : Int)]) (by simp [results, Try.results43, go_sem, z0, z1, z2]) rfl (OuQ.some HBV.out HDONE.out rfl HTXF.out)
              · have hb5 : (hd != s1) = true := by simp; exact hh
                have HNO : Hid (NoU ps l (s0, s1) (e1 + 1)) := HN5.out fun e => hh e.2.2
                clear hh
                go_wp2_with fail
                go_quiet (fail)
                have HB2 : Hid (Below w.heap.size w (w2.drewN nq)) := HB1b.out.trans ((Go.Joins.below_draws _ _ _).mono HB1b.out.size)
                have HO2 : Hid (Oh g tt n (some ⟨pb, po, none⟩) gm gc s0 s1 (w2.drewN nq)) := HG1b.out.next (Go.Joins.below_draws _ _ _)
                have HE3 : Hid ((w2.drewN nq).heap[g + 3]? = some (.cells #[.int .i64 4, .int .i64 (z : Int)] 41)) := tbox_next HEV.out (Go.Joins.below_draws _ _ _)
                generalize w2.drewN nq = w3 at HB2 HO2 HE3 ⊢
                clear k2 b0 b1 v0 v1
                clear d0
                have HGR := HO2.out.2.2
                have HV := set3_blk HGR (.int .i64 0) (.int .i64 0) (.slice none 0 0)
                have HBV : Hid (Below w.heap.size w (set3 w3 (g + 2) (.int .i64 0) (.int .i64 0) (.slice none 0 0))) := set3_bel HB2.out (by have := HGG.out; omega)
                have r0 := tcell_blk HGR 0
                have r1 := tcell_blk HGR 1
                have r2 := tcell_blk HGR 2
                have f0 := tfrozen_blk HGR 0
                have f1 := tfrozen_blk HGR 1
                have f2 := tfrozen_blk HGR 2
                simp only [List.getElem?_toArray, List.getElem?_cons_zero, List.getElem?_cons_succ] at r0 r1 r2
                go_wp2_with fail
                rw [← set3_eq]
                generalize set3 w3 (g + 2) (.int .i64 0) (.int .i64 0) (.slice none 0 0) = w9 at *
                have z0 := tcell_blk HV 0
                have z1 := tcell_blk HV 1
                have z2 := tcell_blk HV 2
                simp only [List.getElem?_toArray, List.getElem?_cons_zero, List.getElem?_cons_succ] at z0 z1 z2
                exact bodyPost_ret (v := .tuple #[.agg #[.int .i64 0, .int .i64 0, .slice none 0 0], .int .i64 (-1)]) (by simp [results, Try.results43, go_sem, z0, z1, z2]) rfl (OuQ.none HBV.out HNO.out)
            · have hb4 : decide ((gm : Int) ≤ (z : Int)) = true := by simp; omega
              have HNO : Hid (NoU ps l (s0, s1) (e1 + 1)) := HN5.out fun e => by have := isPr_le e.2.1; have := HGM.out; omega
              go_wp2_with fail
              go_quiet (fail)
              have HB2 : Hid (Below w.heap.size w (w2.drewN nq)) := HB1b.out.trans ((Go.Joins.below_draws _ _ _).mono HB1b.out.size)
              have HO2 : Hid (Oh g tt n ga gm gc s0 s1 (w2.drewN nq)) := HG1b.out.next (Go.Joins.below_draws _ _ _)
              have HE3 : Hid ((w2.drewN nq).heap[g + 3]? = some (.cells #[.int .i64 4, .int .i64 (z : Int)] 41)) := tbox_next HEV.out (Go.Joins.below_draws _ _ _)
              generalize w2.drewN nq = w3 at HB2 HO2 HE3 ⊢
              clear k2 b0 b1 v0 v1
              have HGR := HO2.out.2.2
              have HV := set3_blk HGR (.int .i64 0) (.int .i64 0) (.slice none 0 0)
              have HBV : Hid (Below w.heap.size w (set3 w3 (g + 2) (.int .i64 0) (.int .i64 0) (.slice none 0 0))) := set3_bel HB2.out (by have := HGG.out; omega)
              have r0 := tcell_blk HGR 0
              have r1 := tcell_blk HGR 1
              have r2 := tcell_blk HGR 2
              have f0 := tfrozen_blk HGR 0
              have f1 := tfrozen_blk HGR 1
              have f2 := tfrozen_blk HGR 2
              simp only [List.getElem?_toArray, List.getElem?_cons_zero, List.getElem?_cons_succ] at r0 r1 r2
              go_wp2_with fail
              rw [← set3_eq]
              generalize set3 w3 (g + 2) (.int .i64 0) (.int .i64 0) (.slice none 0 0) = w9 at *
              have z0 := tcell_blk HV 0
              have z1 := tcell_blk HV 1
              have z2 := tcell_blk HV 2
              simp only [List.getElem?_toArray, List.getElem?_cons_zero, List.getElem?_cons_succ] at z0 z1 z2
              exact bodyPost_ret (v := .tuple #[.agg #[.int .i64 0, .int .i64 0, .slice none 0 0], .int .i64 (-1)]) (by simp [results, Try.results43, go_sem, z0, z1, z2]) rfl (OuQ.none HBV.out HNO.out)
        · have hb2 : (x0 != 4) = true := by simp; exact h1
          have HNO : Hid (NoU ps l (s0, s1) (e1 + 1)) := HN5.out fun e => h1 e.1
          clear h1
          go_wp2_with fail
          go_quiet (fail)
          have HB2 : Hid (Below w.heap.size w (w2.drewN nq)) := HB1b.out.trans ((Go.Joins.below_draws _ _ _).mono HB1b.out.size)
          have HO2 : Hid (Oh g tt n ga gm gc s0 s1 (w2.drewN nq)) := HG1b.out.next (Go.Joins.below_draws _ _ _)
          have HE3 : Hid ((w2.drewN nq).heap[g + 3]? = some (.cells #[.int .i64 x0, .int .i64 x1] 41)) := tbox_next HEV.out (Go.Joins.below_draws _ _ _)
          generalize w2.drewN nq = w3 at HB2 HO2 HE3 ⊢
          clear k2 b0 b1 v0 v1
          have HGR := HO2.out.2.2
          have HV := set3_blk HGR (.int .i64 0) (.int .i64 0) (.slice none 0 0)
          have HBV : Hid (Below w.heap.size w (set3 w3 (g + 2) (.int .i64 0) (.int .i64 0) (.slice none 0 0))) := set3_bel HB2.out (by have := HGG.out; omega)
          have r0 := tcell_blk HGR 0
          have r1 := tcell_blk HGR 1
          have r2 := tcell_blk HGR 2
          have f0 := tfrozen_blk HGR 0
          have f1 := tfrozen_blk HGR 1
          have f2 := tfrozen_blk HGR 2
          simp only [List.getElem?_toArray, List.getElem?_cons_zero, List.getElem?_cons_succ] at r0 r1 r2
          go_wp2_with fail
          rw [← set3_eq]
          generalize set3 w3 (g + 2) (.int .i64 0) (.int .i64 0) (.slice none 0 0) = w9 at *
          have z0 := tcell_blk HV 0
          have z1 := tcell_blk HV 1
          have z2 := tcell_blk HV 2
          simp only [List.getElem?_toArray, List.getElem?_cons_zero, List.getElem?_cons_succ] at z0 z1 z2
          exact bodyPost_ret (v := .tuple #[.agg #[.int .i64 0, .int .i64 0, .slice none 0 0], .int .i64 (-1)]) (by simp [results, Try.results43, go_sem, z0, z1, z2]) rfl (OuQ.none HBV.out HNO.out)
    · obtain rfl : en = 0 := by omega
      have HNO : Hid (NoU ps l (s0, s1) 0) := NoU.zero
      have hb0 : (((0 : Nat) : Int) == 0) = true := rfl
      have HGR := HG1.out.2.2
      have HV := set3_blk HGR (.int .i64 0) (.int .i64 0) (.slice none 0 0)
      have HBV : Hid (Below w.heap.size w (set3 w1 (g + 2) (.int .i64 0) (.int .i64 0) (.slice none 0 0))) := set3_bel HB1.out (by have := HGG.out; omega)
      have r0 := tcell_blk HGR 0
      have r1 := tcell_blk HGR 1
      have r2 := tcell_blk HGR 2
      have f0 := tfrozen_blk HGR 0
      have f1 := tfrozen_blk HGR 1
      have f2 := tfrozen_blk HGR 2
      simp only [List.getElem?_toArray, List.getElem?_cons_zero, List.getElem?_cons_succ] at r0 r1 r2
      go_wp2_with fail
      rw [← set3_eq]
      generalize set3 w1 (g + 2) (.int .i64 0) (.int .i64 0) (.slice none 0 0) = w9 at *
      have z0 := tcell_blk HV 0
      have z1 := tcell_blk HV 1
      have z2 := tcell_blk HV 2
      simp only [List.getElem?_toArray, List.getElem?_cons_zero, List.getElem?_cons_succ] at z0 z1 z2
      exact bodyPost_ret (v := .tuple #[.agg #[.int .i64 0, .int .i64 0, .slice none 0 0], .int .i64 (-1)]) (by simp [results, Try.results43, go_sem, z0, z1, z2]) rfl (OuQ.none HBV.out HNO.out)
end Go.Proofs.Ytldfiofgknmcgaa
