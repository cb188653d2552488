/-
  The contracts of trees.Yield, Check, Down and Up.
-/
import Derived.Test.YtpfehghicaaghaaTrThr
namespace Go.Proofs.Ytpfehghicaaghaa
open Go.RowKit
open Cg

/-- What is wrong with a tree of a grammar. -/
def errT (t n : Int) (ps : List Pd) (x : T) : Int := if chk t n ps = 0 then ((thr ps x (2, 0) 1 0 []).1 : Int) else chk t n ps
def wordT (ps : List Pd) (x : T) : List Int := (thr ps x (2, 0) 1 0 []).2.2
/-- What Yield leaves. -/
def YlP (w : World) (t n : Int) (ps : List Pd) (x : T) (yv : Value) (w' : World) : Prop := Below w.heap.size w w' ∧ if errT t n ps x = 0 then w'.ownsRow w.heap.size 3 1 yv (wordT ps x).length ((wordT ps x).map (Value.int .i64)) else yv = .slice none 0 0
theorem trip {r : Nat × Nat × List Int} (h : r.1 = 0) : r = (0, r.2.1, r.2.2) := by
  obtain ⟨a, b, c⟩ := r
  simp only at h
  subst h; rfl
theorem tup2 {a b a' b' : Value} (h1 : a = a') (h2 : b = b') : Ending.returned (.tuple #[a, b]) = .returned (.tuple #[a', b']) := by rw [h1, h2]
set_option maxHeartbeats 8000000 in
set_option maxRecDepth 20000 in
theorem Yield_any (tt n : Int) (pv : Value) (ps : List Pd) (v : Value) (t : T) (P : Nat → Prop) (w : World) (hp : Pds w pv ps) (hx : Tx w P v t) :
    Calls Try.prog 24 #[.agg #[.int .i64 tt, .int .i64 n, pv], v] w fun e w' => ∃ ya yn yc, e = .returned (.tuple #[.slice ya yn yc, .int .i64 (errT tt n ps t)]) ∧ YlP w tt n ps t (.slice ya yn yc) w' := by
  have HP : Hid (Pds w pv ps) := hp
  have HX : Hid (Tx w P v t) := hx
  obtain ⟨ga, gc, rfl, -, -⟩ := hp
  obtain ⟨p, k, ao, cap, kids, vals, rfl, rfl, -⟩ := hx.shape
  obtain ⟨gm, HGM⟩ : ∃ gm, Hid (ps.length = gm) := ⟨_, (rfl : ps.length = ps.length)⟩
  obtain ⟨tn, HTN⟩ : ∃ tn, Hid (kids.length = tn) := ⟨_, (rfl : kids.length = kids.length)⟩
  rw [HGM.out] at HP ⊢
  rw [HTN.out] at HX ⊢
  clear hx
  obtain ⟨x, HXT⟩ : ∃ x, Hid (T.mk p k kids = x) := ⟨_, (rfl : T.mk p k kids = T.mk p k kids)⟩
  rw [HXT.out] at HX ⊢
  obtain ⟨er, HER⟩ : ∃ er, Hid (errT tt n ps x = er) := ⟨_, (rfl : errT tt n ps x = errT tt n ps x)⟩
  rw [HER.out]
  obtain ⟨ce, HCE⟩ : ∃ ce, Hid (chk tt n ps = ce) := ⟨_, (rfl : chk tt n ps = chk tt n ps)⟩
  have HB1 : Hid (Below w.heap.size w ((w.alloc (Obj.cells #[.int .i64 tt, .int .i64 n, .slice ga gm gc] 24)).alloc (Obj.cells #[.int .i64 p, .int .i64 k, .slice ao tn cap] 32))) := below_alloc2 _ _ _
  have HG1 : Hid (((w.alloc (Obj.cells #[.int .i64 tt, .int .i64 n, .slice ga gm gc] 24)).alloc (Obj.cells #[.int .i64 p, .int .i64 k, .slice ao tn cap] 32)).heap[w.heap.size]? = some (.cells #[.int .i64 tt, .int .i64 n, .slice ga gm gc] 24) ∧ ((w.alloc (Obj.cells #[.int .i64 tt, .int .i64 n, .slice ga gm gc] 24)).alloc (Obj.cells #[.int .i64 p, .int .i64 k, .slice ao tn cap] 32)).heap[w.heap.size + 1]? = some (.cells #[.int .i64 p, .int .i64 k, .slice ao tn cap] 32)) := by
    refine ⟨tbox_next (heap_alloc_new _ _) (below_alloc _ _), ?_⟩
    have := heap_alloc_new (w.alloc (Obj.cells #[.int .i64 tt, .int .i64 n, .slice ga gm gc] 24)) (Obj.cells #[.int .i64 p, .int .i64 k, .slice ao tn cap] 32)
    rw [show (w.alloc (Obj.cells #[.int .i64 tt, .int .i64 n, .slice ga gm gc] 24)).heap.size = w.heap.size + 1 by simp] at this
    exact this
  go_enter Try.func24, Try.ntmps24
  go_upto_region 1 with fail
  generalize (w.alloc (Obj.cells #[.int .i64 tt, .int .i64 n, .slice ga gm gc] 24)).alloc (Obj.cells #[.int .i64 p, .int .i64 k, .slice ao tn cap] 32) = w1 at HB1 HG1 ⊢
  have e0 := tcell_blk HG1.out.1 0
  have e1 := tcell_blk HG1.out.1 1
  have e2 := tcell_blk HG1.out.1 2
  simp only [List.getElem?_toArray, List.getElem?_cons_zero, List.getElem?_cons_succ] at e0 e1 e2
  go_wp2_with fail
  have hc := Check_any tt n _ ps w1 (HP.out.below HB1.out)
  rw [HCE.out] at hc
  refine hc.mono ?_
  rintro _ w2 ⟨rfl, hb2⟩
  have HB2 : Hid (Below w.heap.size w w2) := HB1.out.trans (hb2.mono HB1.out.size)
  have HG2 : Hid (w2.heap[w.heap.size]? = some (.cells #[.int .i64 tt, .int .i64 n, .slice ga gm gc] 24) ∧ w2.heap[w.heap.size + 1]? = some (.cells #[.int .i64 p, .int .i64 k, .slice ao tn cap] 32)) := ⟨tbox_next HG1.out.1 hb2, tbox_next HG1.out.2 hb2⟩
  clear hc hb2 e0 e1 e2 HG1 HB1
  by_cases hz : ce = 0
  · subst hz
    have HE2 : Hid (er = ((thr ps x (2, 0) 1 0 []).1 : Int)) := by show _ = _; rw [← HER.out]; unfold errT; rw [if_pos HCE.out]
    obtain ⟨r, HRR⟩ : ∃ r, Hid (thr ps x (2, 0) 1 0 [] = r) := ⟨_, (rfl : thr ps x (2, 0) 1 0 [] = thr ps x (2, 0) 1 0 [])⟩
    rw [HRR.out] at HE2
    have e0 := tcell_blk HG2.out.1 0
    have e1 := tcell_blk HG2.out.1 1
    have e2 := tcell_blk HG2.out.1 2
    simp only [List.getElem?_toArray, List.getElem?_cons_zero, List.getElem?_cons_succ] at e0 e1 e2
    go_upto_region 5 with fail
    have hb3 := below_alloc w2 (Obj.cells #[.int .i64 tt, .int .i64 n, .slice ga gm gc, .int .i64 0, .slice none 0 0] 107)
    have HG3 : Hid ((w2.alloc (Obj.cells #[.int .i64 tt, .int .i64 n, .slice ga gm gc, .int .i64 0, .slice none 0 0] 107)).heap[w.heap.size + 1]? = some (.cells #[.int .i64 p, .int .i64 k, .slice ao tn cap] 32)) := tbox_next HG2.out.2 hb3
    have HK3 : Hid (Wk w w2.heap.size tt n (.slice ga gm gc) 0 (.slice none 0 0) [] (w2.alloc (Obj.cells #[.int .i64 tt, .int .i64 n, .slice ga gm gc, .int .i64 0, .slice none 0 0] 107))) := ⟨heap_alloc_new _ _, World.ownsRow_nil _ _ _ _, HB2.out.size, HB2.out.trans (hb3.mono HB2.out.size)⟩
    obtain ⟨q, HQ⟩ : ∃ q, Hid (w2.heap.size = q) := ⟨_, (rfl : w2.heap.size = w2.heap.size)⟩
    clear e0 e1 e2 HG2 HB2 hb3
    rw [HQ.out] at HK3 ⊢
    generalize w2.alloc (Obj.cells #[.int .i64 tt, .int .i64 n, .slice ga gm gc, .int .i64 0, .slice none 0 0] 107) = w3 at HG3 HK3 ⊢
    have HCW : Hid (∀ X : Kp (Sb w3), Calls Try.prog 58 #[] X.W fun e w'' => e = .returned (.agg #[.int .i64 2, .int .i64 0]) ∧ ∃ Y : Kp (Sb w3), w'' = Y.W) := fun X => Kp.calls X Sb.next (whole_any X.W)
    have hne : Nonempty (Kp (Sb w3)) := ⟨⟨_, Sb.drew w3⟩⟩
    have p0 : ∀ X : Kp (Sb w3), X.W.cell? ⟨w.heap.size + 1, 0, none⟩ = some (.int .i64 p) := fun X => tcell_blk (tbox_next HG3.out X.h) 0
    have p1 : ∀ X : Kp (Sb w3), X.W.cell? ⟨w.heap.size + 1, 1, none⟩ = some (.int .i64 k) := fun X => tcell_blk (tbox_next HG3.out X.h) 1
    have p2 : ∀ X : Kp (Sb w3), X.W.cell? ⟨w.heap.size + 1, 2, none⟩ = some (.slice ao tn cap) := fun X => tcell_blk (tbox_next HG3.out X.h) 2
    have HCL : Hid (∀ X : Kp (Sb w3), Calls Try.prog 57 #[.pointer (some ⟨q, 0, none⟩), .agg #[.int .i64 p, .int .i64 k, .slice ao tn cap], .agg #[.int .i64 2, .int .i64 0], .int .i64 1] X.W fun e w' => e = .returned (.int .i64 er) ∧ ThP w q tt n (.slice ga gm gc) r X.W w') := fun X => by
      have := through_all w q tt n (.slice ga gm gc) ps HP.out P x.sz x (Nat.le_refl _) _ 2 0 1 0 (.slice none 0 0) [] X.W HX.out (by omega) (by omega) (by simp) (HK3.out.next X.h)
      rw [HRR.out, ← HE2.out] at this
      exact this
    refine wp_region_chain (S := Sb w3) [_, _] [_, _] mixed (by kernel_rfl) (Sb.drew w3) ?_
    simp only [List.cons_append, List.nil_append]
    repeat (go_big_quiet_step (first | (go_at_call 58; with_reducible exact HCW.out _)))
    refine wpQuiet_nil ?_
    intro X
    by_cases hr : er = 0
    · subst hr
      go_wp2_with fail
      refine (HCL.out X).mono ?_
      rintro _ W5 ⟨rfl, ⟨⟨wv, hk5⟩, hf5⟩⟩
      clear p0 p1 p2 hne HCL HCW
      have hc4 : W5.cell? ⟨q, 4, none⟩ = some wv := by have := hk5.cell 4; simpa using this
      have HK5 : Hid (Wk w q tt n (.slice ga gm gc) r.2.1 wv r.2.2 W5) := hk5
      obtain ⟨va, vc, rfl⟩ := own_len hk5.own
      clear hk5 hf5
      obtain ⟨vn, HVN⟩ : ∃ vn, Hid (r.2.2.length = vn) := ⟨_, (rfl : r.2.2.length = r.2.2.length)⟩
      rw [HVN.out] at hc4
      go_wp2_with fail
      go_ret2
      refine ⟨_, _, _, rfl, HK5.out.bel, ?_⟩
      rw [if_pos HER.out]
      unfold wordT
      rw [HRR.out]
      have := HK5.out.own
      rw [HVN.out] at this ⊢
      exact this
    · have hb : (er != 0) = true := by simp; exact hr
      go_wp2_with fail
      refine (HCL.out X).mono ?_
      rintro _ W5 ⟨rfl, ⟨⟨wv, hk5⟩, hf5⟩⟩
      clear p0 p1 p2 hne HCL HCW
      have HK5 : Hid (Below w.heap.size w W5) := hk5.bel
      have HRN : Hid (¬ er = 0) := hr
      clear hk5 hf5 hr
      go_wp2_with fail
      go_ret2
      refine ⟨_, _, _, rfl, HK5.out, ?_⟩
      rw [HER.out, if_neg HRN.out]
  · have hb : (ce != 0) = true := by simp; exact hz
    have HE2 : Hid (er = ce) := by show _ = _; rw [← HER.out]; unfold errT; rw [HCE.out, if_neg hz]
    have HNZ : Hid (¬ er = 0) := by show ¬ _; rw [HE2.out]; exact hz
    clear hz
    go_wp2_with fail
    go_ret2
    refine ⟨none, 0, 0, tup2 rfl (by rw [HE2.out]; rfl), HB2.out, ?_⟩
    rw [HER.out, if_neg HNZ.out]

set_option maxHeartbeats 4000000 in
set_option maxRecDepth 20000 in
theorem TCheck_any (tt n : Int) (pv : Value) (ps : List Pd) (v : Value) (t : T) (P : Nat → Prop) (w : World) (hp : Pds w pv ps) (hx : Tx w P v t) :
    Calls Try.prog 35 #[.agg #[.int .i64 tt, .int .i64 n, pv], v] w fun e w' => e = .returned (.int .i64 (errT tt n ps t)) ∧ Below w.heap.size w w' := by
  have HP : Hid (Pds w pv ps) := hp
  have HX : Hid (Tx w P v t) := hx
  obtain ⟨ga, gc, rfl, -, -⟩ := hp
  obtain ⟨p, k, ao, cap, kids, vals, rfl, rfl, -⟩ := hx.shape
  obtain ⟨gm, HGM⟩ : ∃ gm, Hid (ps.length = gm) := ⟨_, (rfl : ps.length = ps.length)⟩
  obtain ⟨tn, HTN⟩ : ∃ tn, Hid (kids.length = tn) := ⟨_, (rfl : kids.length = kids.length)⟩
  rw [HGM.out] at HP ⊢
  rw [HTN.out] at HX ⊢
  clear hx
  obtain ⟨er, HER⟩ : ∃ er, Hid (errT tt n ps (.mk p k kids) = er) := ⟨_, (rfl : errT tt n ps (.mk p k kids) = errT tt n ps (.mk p k kids))⟩
  rw [HER.out]
  have HB1 : Hid (Below w.heap.size w ((w.alloc (Obj.cells #[.int .i64 tt, .int .i64 n, .slice ga gm gc] 24)).alloc (Obj.cells #[.int .i64 p, .int .i64 k, .slice ao tn cap] 32))) := below_alloc2 _ _ _
  go_enter Try.func35, Try.ntmps35
  go_wp2_with fail
  have hc := Yield_any tt n _ ps _ _ P _ (HP.out.below HB1.out) (HX.out.bel HB1.out)
  rw [HER.out] at hc
  refine hc.mono ?_
  rintro _ w2 ⟨ya, yn, yc, rfl, hy⟩
  have HB2 : Hid (Below w.heap.size w w2) := HB1.out.trans (hy.1.mono HB1.out.size)
  clear hc hy
  go_wp2_with fail
  go_ret
  exact ⟨rfl, HB2.out⟩

end Go.Proofs.Ytpfehghicaaghaa
