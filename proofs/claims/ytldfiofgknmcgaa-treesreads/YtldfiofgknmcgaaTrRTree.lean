/-
  The contract of pushref.Tree: what is wrong first with a tree of a grammar.
-/
import Derived.Test.YtldfiofgknmcgaaTrLook
namespace Go.Proofs.Ytldfiofgknmcgaa
open Go.RowKit
open Cg

set_option maxHeartbeats 4000000 in
set_option maxRecDepth 20000 in
theorem RTree_any (tt n : Int) (pv : Value) (ps : List Pd) (v : Value) (t : T) (P : Nat → Prop) (w : World) (hp : Pds w pv ps) (hx : Tx w P v t) :
    Calls Try.prog 10 #[.agg #[.int .i64 tt, .int .i64 n, pv], v] w fun e w' => e = .returned (.int .i64 ((thr ps t (2, 0) 1 0 []).1 : Int)) ∧ Below w.heap.size w w' := by
  have HP : Hid (Pds w pv ps) := hp
  have HX : Hid (Tx w P v t) := hx
  obtain ⟨ga, gc, rfl, -, -⟩ := hp
  obtain ⟨p, k, ao, cap, kids, vals, rfl, rfl, -⟩ := hx.shape
  obtain ⟨gm, HGM⟩ : ∃ gm, Hid (ps.length = gm) := ⟨_, (rfl : ps.length = ps.length)⟩
  obtain ⟨tn, HTN⟩ : ∃ tn, Hid (kids.length = tn) := ⟨_, (rfl : kids.length = kids.length)⟩
  rw [HGM.out] at HP ⊢
  rw [HTN.out] at HX ⊢
  clear hx
  obtain ⟨x, HXT⟩ : ∃ x, Hid (T.mk p k kids = x) := ⟨_, (rfl : T.mk p k kids = T.mk p k kids)⟩
  rw [HXT.out] at HX ⊢
  obtain ⟨er, HER⟩ : ∃ er, Hid ((thr ps x (2, 0) 1 0 []) = er) := ⟨_, (rfl : (thr ps x (2, 0) 1 0 []) = _)⟩
  rw [HER.out]
  have hmf : ∀ (fn : Fn) (first cap : Array Value) (w : World), (Instr.makeFunc fn first cap).run Try.prog w = .ok (.func fn first cap) w := fun _ _ _ _ => rfl
  have HLK : Hid (Lk w (w.heap.size + 1 + 1) (w.heap.size + 1 + 1 + 1) w.heap.size (w.heap.size + 1 + 1 + 1 + 1) tt n (.slice ga gm gc) 0 0 (((((w.alloc (Obj.cells #[.int .i64 tt, .int .i64 n, .slice ga gm gc] 24)).alloc (Obj.cells #[.int .i64 p, .int .i64 k, .slice ao tn cap] 27)).alloc (Obj.cells #[.int .i64 0] 3)).alloc (Obj.cells #[.int .i64 0] 3)).alloc (Obj.cells #[.func (Fn.func 31) #[] #[.pointer (some ⟨w.heap.size + 1 + 1, 0, none⟩), .pointer (some ⟨w.heap.size + 1 + 1 + 1, 0, none⟩), .pointer (some ⟨w.heap.size, 0, none⟩), .pointer (some ⟨w.heap.size + 1 + 1 + 1 + 1, 0, none⟩)]] 71))) := by
    have s1 : (w.alloc (Obj.cells #[.int .i64 tt, .int .i64 n, .slice ga gm gc] 24)).heap.size = w.heap.size + 1 := by simp
    have s2 : ((w.alloc (Obj.cells #[.int .i64 tt, .int .i64 n, .slice ga gm gc] 24)).alloc (Obj.cells #[.int .i64 p, .int .i64 k, .slice ao tn cap] 27)).heap.size = w.heap.size + 1 + 1 := by simp
    have s3 : (((w.alloc (Obj.cells #[.int .i64 tt, .int .i64 n, .slice ga gm gc] 24)).alloc (Obj.cells #[.int .i64 p, .int .i64 k, .slice ao tn cap] 27)).alloc (Obj.cells #[.int .i64 0] 3)).heap.size = w.heap.size + 1 + 1 + 1 := by simp
    have s4 : ((((w.alloc (Obj.cells #[.int .i64 tt, .int .i64 n, .slice ga gm gc] 24)).alloc (Obj.cells #[.int .i64 p, .int .i64 k, .slice ao tn cap] 27)).alloc (Obj.cells #[.int .i64 0] 3)).alloc (Obj.cells #[.int .i64 0] 3)).heap.size = w.heap.size + 1 + 1 + 1 + 1 := by simp
    have b1 := below_alloc w (Obj.cells #[.int .i64 tt, .int .i64 n, .slice ga gm gc] 24)
    have b2 := below_alloc (w.alloc (Obj.cells #[.int .i64 tt, .int .i64 n, .slice ga gm gc] 24)) (Obj.cells #[.int .i64 p, .int .i64 k, .slice ao tn cap] 27)
    have b3 := below_alloc ((w.alloc (Obj.cells #[.int .i64 tt, .int .i64 n, .slice ga gm gc] 24)).alloc (Obj.cells #[.int .i64 p, .int .i64 k, .slice ao tn cap] 27)) (Obj.cells #[.int .i64 0] 3)
    have b4 := below_alloc (((w.alloc (Obj.cells #[.int .i64 tt, .int .i64 n, .slice ga gm gc] 24)).alloc (Obj.cells #[.int .i64 p, .int .i64 k, .slice ao tn cap] 27)).alloc (Obj.cells #[.int .i64 0] 3)) (Obj.cells #[.int .i64 0] 3)
    have b5 := below_alloc ((((w.alloc (Obj.cells #[.int .i64 tt, .int .i64 n, .slice ga gm gc] 24)).alloc (Obj.cells #[.int .i64 p, .int .i64 k, .slice ao tn cap] 27)).alloc (Obj.cells #[.int .i64 0] 3)).alloc (Obj.cells #[.int .i64 0] 3)) (Obj.cells #[.func (Fn.func 31) #[] #[.pointer (some ⟨w.heap.size + 1 + 1, 0, none⟩), .pointer (some ⟨w.heap.size + 1 + 1 + 1, 0, none⟩), .pointer (some ⟨w.heap.size, 0, none⟩), .pointer (some ⟨w.heap.size + 1 + 1 + 1 + 1, 0, none⟩)]] 71)
    have g0 := heap_alloc_new w (Obj.cells #[.int .i64 tt, .int .i64 n, .slice ga gm gc] 24)
    have g2 := heap_alloc_new ((w.alloc (Obj.cells #[.int .i64 tt, .int .i64 n, .slice ga gm gc] 24)).alloc (Obj.cells #[.int .i64 p, .int .i64 k, .slice ao tn cap] 27)) (Obj.cells #[.int .i64 0] 3)
    have g3 := heap_alloc_new (((w.alloc (Obj.cells #[.int .i64 tt, .int .i64 n, .slice ga gm gc] 24)).alloc (Obj.cells #[.int .i64 p, .int .i64 k, .slice ao tn cap] 27)).alloc (Obj.cells #[.int .i64 0] 3)) (Obj.cells #[.int .i64 0] 3)
    have g4 := heap_alloc_new ((((w.alloc (Obj.cells #[.int .i64 tt, .int .i64 n, .slice ga gm gc] 24)).alloc (Obj.cells #[.int .i64 p, .int .i64 k, .slice ao tn cap] 27)).alloc (Obj.cells #[.int .i64 0] 3)).alloc (Obj.cells #[.int .i64 0] 3)) (Obj.cells #[.func (Fn.func 31) #[] #[.pointer (some ⟨w.heap.size + 1 + 1, 0, none⟩), .pointer (some ⟨w.heap.size + 1 + 1 + 1, 0, none⟩), .pointer (some ⟨w.heap.size, 0, none⟩), .pointer (some ⟨w.heap.size + 1 + 1 + 1 + 1, 0, none⟩)]] 71)
    rw [s2] at g2
    rw [s3] at g3
    rw [s4] at g4
    refine ⟨tbox_next (tbox_next g2 b4) b5, tbox_next g3 b5, tbox_next (tbox_next (tbox_next (tbox_next g0 b2) b3) b4) b5, g4, by omega, by omega, by omega, ?_⟩
    exact b1.trans ((b2.mono b1.size).trans ((b3.mono (b1.trans (b2.mono b1.size)).size).trans ((b4.mono (by omega)).trans (b5.mono (by omega)))))
  go_enter Try.func10, Try.ntmps10
  go_wp2_with fail
  have hc := look_all w _ _ _ _ tt n _ ps HP.out P x.sz x (Nat.le_refl _) _ 2 0 1 0 [] _ HX.out (by omega) (by omega) (by simp) HLK.out
  rw [HER.out] at hc
  refine hc.mono ?_
  rintro _ w2 ⟨rfl, hb2⟩
  have HB : Hid (Below w.heap.size w w2) := hb2.1.bel
  clear hc hb2 HLK
  go_wp2_with fail
  go_ret
  exact ⟨by simp, HB.out⟩
end Go.Proofs.Ytldfiofgknmcgaa
