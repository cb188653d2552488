/-
  Plain parts for count.Only: what the closed chart says of trees; a tree of the right form is only too large or too deep. The contract of chart.tree: the only tree, as far as a thousand nodes go.
-/
import Derived.Test.YtpfehghicaaghaaChNode
import Derived.Test.YtpfehghicaaghaaChC
namespace Go.Proofs.Ytpfehghicaaghaa
open Go.RowKit
open Cg

theorem one_of {P : T → Prop} (h : cc P = 1) : ∃ x, P x ∧ ∀ z, P z → z = x := by
  obtain ⟨x, hx⟩ := cc_some.1 (show 1 ≤ cc P by omega)
  refine ⟨x, hx, fun z hz => Classical.byContradiction fun e => ?_⟩
  have := cc_two.2 ⟨z, x, e, hz, hx⟩
  omega
theorem spL_mr {ps : List Pd} (hk : Kd ps) {ws : List Int} {l : List T} {q i j : Nat} (hq : q < ps.length) (h : SpL ps ws l (ps.getD q (0, [])).2 i j) (hj : j < ws.length + 1) : vB ps (ws.length + 1) (on1 (leafC ws) (cnt ps ws)) q i j (ps.getD q (0, [])).2.length ≠ 0 := by
  have hc : ∀ a i j, j < i → cnt ps ws a i j = 0 := fun a i j hij => cnt_out (Or.inl hij)
  have h1 := row1_mr hc (on1_tri (leafC_tri ws) hc) (ps.getD q (0, [])).2 (fun s hs i j => on1_one1 (kd_at hk hq s hs) i j) (i := i) hj
  have h2 := row1_cc (ps := ps) (w := ws) lk_all (f := cnt ps ws) (fun s h4 i j => cnt_all s h4 i j) (ps.getD q (0, [])).2 i j
  have h3 : 1 ≤ cc fun l => SpL ps ws l (ps.getD q (0, [])).2 i j ∧ True := cc_some.2 ⟨l, h, trivial⟩
  unfold vB
  rw [List.take_length, ← h1, h2]
  omega
theorem nt_of {ps : List Pd} {ws : List Int} {N : Tb} {B : Nat → Nat → Nat → Nat → Nat} (hk : Kd ps) (hl : Lst (lf false ws) ps (ws.length + 1) N) (hb : ∀ p k i j, p < ps.length → k ≤ (ps.getD p (0, [])).2.length → i ≤ j → j < ws.length + 1 → B p k i j = vB ps (ws.length + 1) (on1 (lf false ws) N) p i j k) : Nt ps ws false N B := by
  have e0 : lf false ws = leafC ws := by unfold lf; simp
  rw [e0] at hl
  have hN : N = cnt ps ws := by funext a i j; exact lst_cnt hk hl a i j
  refine ⟨fun a i j => by rw [hN]; exact cc_le _, fun a i j h => hl.low a i j (Or.inl h), hb, fun s i j hs h => ?_, fun p i j l hp hs => ?_⟩
  · rw [e0, on1_one1 hs] at h
    unfold one1 at h
    by_cases h4 : s.1 = 1
    · rw [if_pos h4] at h
      by_cases h5 : j = i + 1 ∧ ws[i]? = some s.2
      · exact ⟨_, (sp_leaf h4).2 ⟨h5, rfl⟩⟩
      · rw [if_neg h5] at h; exact absurd rfl h
    · rw [if_neg h4, hN] at h
      obtain ⟨t, ht⟩ := cc_some.1 (show 1 ≤ cnt ps ws s.2 i j by omega)
      exact ⟨t, (sp_kind h4).2 ht⟩
  · have hij := hs.ij
    have hjl := hs.jl
    rw [hb p _ i j hp (Nat.le_refl _) hij (by omega), e0, hN]
    exact spL_mr hk hp hs (by omega)
mutual
/-- A tree of the right form whose tokens are in order is only too large or too deep. -/
theorem thr_right {ps : List Pd} : ∀ {t : T} {s : Sy} {d n : Nat} {ws : List Int}, sh ps t s = true → tk t = nums ws.length (tk t).length → (thr ps t s d n ws).1 = 0 ∨ (thr ps t s d n ws).1 = 2 ∨ (thr ps t s d n ws).1 = 7
  | .mk p k l, s, d, n, ws, h, ht => by
    rw [thr_eq]
    split
    · simp
    · split
      · simp
      · by_cases h4 : s.1 = 1
        · have e := sh_is_leaf h h4
          injection e with e1 e2 e3
          subst e1 e3
          rw [tk, if_pos rfl] at ht
          simp [nums] at ht
          have hm : may ps (-1) k ([] : List T).length s ws.length = true := by unfold may isOf; simp [h4, ht]
          rw [if_pos hm, if_pos h4]; simp
        · obtain ⟨h1, h2, h3, h5⟩ := sh_node h h4
          have hle := isPr_le h1
          have hm : may ps p k l.length s ws.length = true := by unfold may isOf; simp [h4, h1, h2, h3, shL_length h5]
          rw [if_pos hm, if_neg h4]
          rw [tk, if_neg (by omega)] at ht
          exact thrL_right h5 ht
theorem thrL_right {ps : List Pd} : ∀ {l : List T} {ss : List Sy} {d n : Nat} {ws : List Int}, shL ps l ss = true → tkL l = nums ws.length (tkL l).length → (thrL ps l ss d n ws).1 = 0 ∨ (thrL ps l ss d n ws).1 = 2 ∨ (thrL ps l ss d n ws).1 = 7
  | [], ss, d, n, ws, _, _ => by rw [thrL]; simp
  | t :: l, [], d, n, ws, h, _ => by rw [shL] at h; simp at h
  | t :: l, s :: ss, d, n, ws, h, ht => by
    rw [shL] at h
    simp at h
    rw [tkL] at ht
    obtain ⟨q1, q2⟩ := nums_split ht
    rw [thrL_cons]
    rcases thr_right (d := d) (n := n) h.1 q1 with e | e
    · rw [if_pos e]
      have h3 := trip e
      have h4 := thr_fwd h3
      refine thrL_right h.2 ?_
      rw [h4.2.2.2.2.2.1, List.length_append, ← h4.2.2.2.2.2.2]
      exact q2
    · rw [if_neg (by omega)]
      exact Or.inr e
end
/-- What Only answers: the error, and the tree. -/
def OlQ (t n : Int) (ps : List Pd) (ws : List Int) (er : Int) (xo : T) : Prop :=
  (ckW t n ps ws ≠ 0 ∧ er = ckW t n ps ws ∧ xo = .mk 0 0 []) ∨ (ckW t n ps ws = 0 ∧ ((cnt ps ws 0 0 ws.length = 0 ∧ er = 17 ∧ xo = .mk 0 0 []) ∨ (cnt ps ws 0 0 ws.length = 2 ∧ er = 12 ∧ xo = .mk 0 0 []) ∨ (cnt ps ws 0 0 ws.length = 1 ∧ ∃ x, Sp ps ws x (2, 0) 0 ws.length ∧ (∀ z, Sp ps ws z (2, 0) 0 ws.length → z = x) ∧ er = errT t n ps x ∧ xo = if er = 0 then x else .mk 0 0 [])))
theorem cut_fits {t n : Int} {ps : List Pd} {x : T} (h : errT t n ps x = 0) : (cutT 1000 x).2 = x := by
  unfold errT at h
  by_cases e : chk t n ps = 0
  · rw [if_pos e] at h
    have := thr_sz (ps := ps) x (2, 0) 1 0 [] (by omega)
    exact cutT_all x 1000 (by omega)
  · rw [if_neg e] at h; exact absurd h e
end Go.Proofs.Ytpfehghicaaghaa

namespace Go.Proofs.Ytpfehghicaaghaa
open Go.RowKit
open Cg

set_option maxHeartbeats 8000000 in
set_option maxRecDepth 20000 in
theorem tree_any (w0 : World) (y : Lay) (t : Int) (n : Nat) (pv wv : Value) (ps : List Pd) (ws : List Int) (op : Bool) (N : Tb) (B : Nat → Nat → Nat → Nat → Nat) (rc : Rc w0 t n pv wv ps ws) (nt : Nt ps ws op N B) (x : T) (hx : Sp ps ws x (2, 0) 0 ws.length) (hu : ∀ z, Sp ps ws z (2, 0) 0 ws.length → z = x) (w : World) (hc : Ch w0 y t n pv wv ps ws op N B w) :
    Calls Try.prog 34 #[.pointer (some ⟨y.q, 0, none⟩)] w fun e w' => ∃ p k a m c, e = .returned (.agg #[.int .i64 p, .int .i64 k, .slice a m c]) ∧ Tx w' (fun b => w.heap.size ≤ b) (.agg #[.int .i64 p, .int .i64 k, .slice a m c]) (cutT 1000 x).2 ∧ Below w.heap.size w w' := by
  have hwl := rc.wl
  have hnl := rc.nl
  obtain ⟨wao, wc, rfl, hwm, -⟩ := id rc.wrd
  have B1 := two_allocs w (.cells #[.int .i64 0, .int .i64 0, .slice none 0 0] 32) (.cells #[.int .i64 1000] 3)
  have HL : Hid (((w.alloc (.cells #[.int .i64 0, .int .i64 0, .slice none 0 0] 32)).alloc (.cells #[.int .i64 1000] 3)).heap[w.heap.size + 1]? = some (.cells #[.int .i64 1000] 3)) := by
    have := heap_alloc2_new w (.cells #[.int .i64 0, .int .i64 0, .slice none 0 0] 32) (.cells #[.int .i64 1000] 3)
    show _ = _
    simpa using this
  have HR : Hid (((w.alloc (.cells #[.int .i64 0, .int .i64 0, .slice none 0 0] 32)).alloc (.cells #[.int .i64 1000] 3)).heap[w.heap.size]? = some (.cells #[.int .i64 0, .int .i64 0, .slice none 0 0] 32)) := tbox_next (heap_alloc_new _ _) (below_alloc _ _)
  have HC : Hid (Ch w0 y t n pv (.slice wao ws.length wc) ps ws op N B ((w.alloc (.cells #[.int .i64 0, .int .i64 0, .slice none 0 0] 32)).alloc (.cells #[.int .i64 1000] 3))) := hc.next B1
  have HB : Hid (Below w.heap.size w ((w.alloc (.cells #[.int .i64 0, .int .i64 0, .slice none 0 0] 32)).alloc (.cells #[.int .i64 1000] 3))) := B1
  have HSZ : Hid (((w.alloc (.cells #[.int .i64 0, .int .i64 0, .slice none 0 0] 32)).alloc (.cells #[.int .i64 1000] 3)).heap.size = w.heap.size + 2) := by show _ = _; simp
  have hlt := hc.ps_lt
  have hbs : ∀ p, p < ps.length → y.bs p < w.heap.size := fun p hp => (hc.body p hp).lt
  have HW0 : Hid (w0.heap.size ≤ w.heap.size) := hc.bel.size
  have c3 : ((w.alloc (.cells #[.int .i64 0, .int .i64 0, .slice none 0 0] 32)).alloc (.cells #[.int .i64 1000] 3)).cell? ⟨y.q, 3, none⟩ = some (.slice wao ws.length wc) := HC.out.bcell 3
  have hnode := node_all w0 y t n pv (.slice wao ws.length wc) ps ws op N B rc nt 1000 1000 2 0 0 ws.length (w.heap.size + 1) x ((w.alloc (.cells #[.int .i64 0, .int .i64 0, .slice none 0 0] 32)).alloc (.cells #[.int .i64 1000] 3)) (Nat.le_refl _) (Nat.le_refl _) HC.out (Or.inr ⟨rfl, by omega, by omega⟩) hx hu HL.out (by have := HW0.out; omega) ⟨by omega, by omega, by omega, fun p hp => by have := hbs p hp; omega⟩
  simp only [Int.natCast_zero] at hnode
  clear B1 hc hlt hbs hx hu rc nt
  go_enter Try.func34, Try.ntmps34
  go_upto_region 2 with fail
  generalize (w.alloc (.cells #[.int .i64 0, .int .i64 0, .slice none 0 0] 32)).alloc (.cells #[.int .i64 1000] 3) = w1 at HL HR HC HB HSZ c3 hnode ⊢
  go_wp2_with fail
  refine hnode.mono ?_
  rintro _ w2 ⟨v, rfl, htx, hl2, hfm⟩
  obtain ⟨p, k, a, c, kids, vals, rfl, hkids, -⟩ := htx.shape
  have HR2 : Hid (w2.heap[w.heap.size]? = some (.cells #[.int .i64 0, .int .i64 0, .slice none 0 0] 32)) := (hfm.block _ (by have := HSZ.out; omega) (fun e => by have e2 : w.heap.size = w.heap.size + 1 := e; omega)).trans HR.out
  have HB2 : Hid (Below w.heap.size w w2) := HB.out.trans (hfm.below (by have := HSZ.out; omega) fun k e => by have e2 : k = w.heap.size + 1 := e; omega)
  have HTX : Hid (Tx (rs3 w2 w.heap.size (.int .i64 p) (.int .i64 k) (.slice a kids.length c)) (fun b => w.heap.size ≤ b) (.agg #[.int .i64 p, .int .i64 k, .slice a kids.length c]) (cutT 1000 x).2) := by
    refine (htx.next (fun b _ hp => ?_) (by simp [rs3, World.setCell])).mono fun b _ hp => (by have hp2 : w1.heap.size ≤ b := hp; have := HSZ.out; show w.heap.size ≤ b; omega)
    have hp2 : w1.heap.size ≤ b := hp
    have := HSZ.out
    unfold rs3
    rw [Below.heap_setCell _ _ _ _ (by simp; omega), Below.heap_setCell _ _ _ _ (by simp; omega), Below.heap_setCell _ _ _ _ (by simp; omega)]
  have HBF : Hid (Below w.heap.size w (rs3 w2 w.heap.size (.int .i64 p) (.int .i64 k) (.slice a kids.length c))) := ((HB2.out.setCell (p := ⟨w.heap.size, 0, none⟩) (Nat.le_refl _) _).setCell (p := ⟨w.heap.size, 1, none⟩) (Nat.le_refl _) _).setCell (p := ⟨w.heap.size, 2, none⟩) (Nat.le_refl _) _
  have HV := rs3_blk HR2.out (.int .i64 p) (.int .i64 k) (.slice a kids.length c)
  have r0 := tcell_blk HR2.out 0
  have r1 := tcell_blk HR2.out 1
  have r2 := tcell_blk HR2.out 2
  have f0 := tfrozen_blk HR2.out 0
  have f1 := tfrozen_blk HR2.out 1
  have f2 := tfrozen_blk HR2.out 2
  simp only [List.getElem?_toArray, List.getElem?_cons_zero, List.getElem?_cons_succ] at r0 r1 r2
  clear htx hl2 hfm hnode c3 hkids
  go_wp2_with fail
  rw [← rs3_eq]
  generalize rs3 w2 w.heap.size (.int .i64 p) (.int .i64 k) (.slice a kids.length c) = w9 at *
  have z0 := tcell_blk HV 0
  have z1 := tcell_blk HV 1
  have z2 := tcell_blk HV 2
  simp only [List.getElem?_toArray, List.getElem?_cons_zero, List.getElem?_cons_succ] at z0 z1 z2
  exact bodyPost_ret (v := .agg #[.int .i64 p, .int .i64 k, .slice a kids.length c]) (by simp [results, Try.results34, go_sem, z0, z1, z2]) rfl ⟨_, _, _, _, _, rfl, HTX.out, HBF.out⟩
end Go.Proofs.Ytpfehghicaaghaa
