/-
  The contracts of pushkeep.one and of pushref.SameTree where both are the same.
-/
import Derived.Test.YtpfehghicaaghaaTrHold
import Derived.BigQuiet
import Derived.Deep.Cut
import Derived.Deep.QuietTactic
namespace Go.Proofs.Ytpfehghicaaghaa
open Go.RowKit
open Cg

def oneT : T := .mk 1 0 [.mk (-1) 0 [], .mk 0 0 [], .mk (-1) 1 [], .mk 0 0 []]
theorem tx_leaf (W : World) (P : Nat → Prop) (p k : Int) : Tx W P (.agg #[.int .i64 p, .int .i64 k, .slice none 0 0]) (.mk p k []) := .mk p k none 0 [] (fun _ => undef) (by simp) (Or.inl rfl) (fun i hi => absurd hi (Nat.not_lt_zero _))
def oneC : Array Value := #[.int .i64 (-1), .int .i64 0, .slice none 0 0, .int .i64 0, .int .i64 0, .slice none 0 0, .int .i64 (-1), .int .i64 1, .slice none 0 0, .int .i64 0, .int .i64 0, .slice none 0 0]
theorem one_tx {W : World} {g : Nat} (h : W.heap[g]? = some (.cells oneC 32)) : Tx W (fun _ => True) (.agg #[.int .i64 1, .int .i64 0, .slice (some ⟨g, 0, none⟩) 4 4]) oneT := by
  have hc : ∀ i, W.cell? ⟨g, i, none⟩ = oneC[i]? := fun i => tcell_blk h i
  refine Tx.mk (w := W) (P := fun _ => True) 1 0 (some ⟨g, 0, none⟩) 4 [.mk (-1) 0 [], .mk 0 0 [], .mk (-1) 1 [], .mk 0 0 []] (fun i => if i = 0 then .agg #[.int .i64 (-1), .int .i64 0, .slice none 0 0] else if i = 2 then .agg #[.int .i64 (-1), .int .i64 1, .slice none 0 0] else .agg #[.int .i64 0, .int .i64 0, .slice none 0 0]) (by simp) (Or.inr ⟨g, 0, rfl, trivial, heap_lt3 h, fun i hi j hj => ?_⟩) (fun i hi => ?_)
  · rw [hc]
    simp only [List.length_cons, List.length_nil] at hi
    have : i = 0 ∨ i = 1 ∨ i = 2 ∨ i = 3 := by omega
    have : j = 0 ∨ j = 1 ∨ j = 2 := by omega
    rcases ‹i = 0 ∨ _› with rfl | rfl | rfl | rfl <;> rcases ‹j = 0 ∨ _› with rfl | rfl | rfl <;> rfl
  · simp only [List.length_cons, List.length_nil] at hi
    have : i = 0 ∨ i = 1 ∨ i = 2 ∨ i = 3 := by omega
    rcases this with rfl | rfl | rfl | rfl <;> exact tx_leaf _ _ _ _
set_option maxHeartbeats 4000000 in
set_option maxRecDepth 20000 in
theorem one_any (w : World) : Calls Try.prog 23 #[] w fun e w' => ∃ g, e = .returned (.agg #[.int .i64 1, .int .i64 0, .slice (some ⟨g, 0, none⟩) 4 4]) ∧ Tx w' (fun _ => True) (.agg #[.int .i64 1, .int .i64 0, .slice (some ⟨g, 0, none⟩) 4 4]) oneT ∧ Below w.heap.size w w' := by
  go_enter Try.func23, Try.ntmps23
  go_wp2_with fail
  have g1 := heap_alloc_new (w.alloc (Obj.cells #[.int .i64 1, .int .i64 0, .slice (some ⟨w.heap.size + 1, 0, none⟩) 4 4] 32)) (Obj.cells oneC 32)
  rw [show (w.alloc (Obj.cells #[.int .i64 1, .int .i64 0, .slice (some ⟨w.heap.size + 1, 0, none⟩) 4 4] 32)).heap.size = w.heap.size + 1 by simp] at g1
  exact bodyPost_ret (v := .agg #[.int .i64 1, .int .i64 0, .slice (some ⟨w.heap.size + 1, 0, none⟩) 4 4]) (by simp [results, Try.results23, go_sem]) rfl ⟨w.heap.size + 1, rfl, one_tx g1, below_alloc2 _ _ _⟩

set_option maxHeartbeats 8000000 in
set_option maxRecDepth 20000 in
theorem same_all (m : Nat) : ∀ (t : T), t.sz ≤ m → ∀ (va vb : Value) (P Q : Nat → Prop) (w : World), Tx w P va t → Tx w Q vb t →
    Calls Try.prog 12 #[va, vb] w fun e w' => e = .returned (.bool true) ∧ Below w.heap.size w w' := by
  induction m with
  | zero => intro t hm; have := t.sz_pos; omega
  | succ m ih =>
    intro t hm va vb P Q w hx hy
    have HIH : Hid _ := ih
    clear ih
    obtain ⟨p, k, ao, cap, kids, vals, rfl, rfl, hkm, -, -⟩ := hx.shape
    obtain ⟨p2, k2, bo, cap2, kids2, vals2, rfl, e2, -, -, -⟩ := hy.shape
    injection e2 with e3 e4 e5
    subst e3 e4 e5
    have HX : Hid (Tx w P (.agg #[.int .i64 p, .int .i64 k, .slice ao kids.length cap]) (.mk p k kids)) := hx
    have HY : Hid (Tx w Q (.agg #[.int .i64 p, .int .i64 k, .slice bo kids.length cap2]) (.mk p k kids)) := hy
    have HKS : Hid (∀ s ∈ kids, s.sz ≤ m) := fun s hs => by have := T.sz_lt (t := .mk p k kids) hs; omega
    clear hx hy
    obtain ⟨kn, HKN⟩ : ∃ kn, Hid (kids.length = kn) := ⟨_, (rfl : kids.length = _)⟩
    rw [HKN.out] at HX HY hkm ⊢
    have HB1 : Hid (Below w.heap.size w ((w.alloc (Obj.cells #[.int .i64 p, .int .i64 k, .slice ao kn cap] 32)).alloc (Obj.cells #[.int .i64 p, .int .i64 k, .slice bo kn cap2] 32))) := below_alloc2 _ _ _
    have HG1 : Hid (((w.alloc (Obj.cells #[.int .i64 p, .int .i64 k, .slice ao kn cap] 32)).alloc (Obj.cells #[.int .i64 p, .int .i64 k, .slice bo kn cap2] 32)).heap[w.heap.size]? = some (.cells #[.int .i64 p, .int .i64 k, .slice ao kn cap] 32) ∧ ((w.alloc (Obj.cells #[.int .i64 p, .int .i64 k, .slice ao kn cap] 32)).alloc (Obj.cells #[.int .i64 p, .int .i64 k, .slice bo kn cap2] 32)).heap[w.heap.size + 1]? = some (.cells #[.int .i64 p, .int .i64 k, .slice bo kn cap2] 32)) := by
      have g1 := heap_alloc_new (w.alloc (Obj.cells #[.int .i64 p, .int .i64 k, .slice ao kn cap] 32)) (Obj.cells #[.int .i64 p, .int .i64 k, .slice bo kn cap2] 32)
      rw [show (w.alloc (Obj.cells #[.int .i64 p, .int .i64 k, .slice ao kn cap] 32)).heap.size = w.heap.size + 1 by simp] at g1
      exact ⟨tbox_next (heap_alloc_new _ _) (below_alloc _ _), g1⟩
    go_enter Try.func12, Try.ntmps12
    go_upto_region 1 with fail
    generalize (w.alloc (Obj.cells #[.int .i64 p, .int .i64 k, .slice ao kn cap] 32)).alloc (Obj.cells #[.int .i64 p, .int .i64 k, .slice bo kn cap2] 32) = w1 at HB1 HG1 ⊢
    have e0 := tcell_blk HG1.out.1 0
    have e1 := tcell_blk HG1.out.1 1
    have e2 := tcell_blk HG1.out.1 2
    have f0 := tcell_blk HG1.out.2 0
    have f1 := tcell_blk HG1.out.2 1
    have f2 := tcell_blk HG1.out.2 2
    simp only [List.getElem?_toArray, List.getElem?_cons_zero, List.getElem?_cons_succ] at e0 e1 e2 f0 f1 f2
    have b0 : (p != p) = false := by simp
    have b1 : (k != k) = false := by simp
    have b2 : ((kn : Int) != (kn : Int)) = false := by simp
    go_upto_region 4 with fail
    clear e0 e1 e2 f0 f1 f2
    go_loopw [5] (fun y wr => ∃ i : Nat, i ≤ kn ∧ y = .int .i64 (i : Int) ∧ Hid (Below w.heap.size w wr ∧ wr.heap[w.heap.size]? = some (.cells #[.int .i64 p, .int .i64 k, .slice ao kn cap] 32) ∧ wr.heap[w.heap.size + 1]? = some (.cells #[.int .i64 p, .int .i64 k, .slice bo kn cap2] 32))) (fun y _ => kn - (intOf y).toNat)
    case atStart => exact ⟨0, by omega, rfl, HB1.out, HG1.out.1, HG1.out.2⟩
    case round =>
      obtain ⟨i, hi, rfl, HI⟩ := hrel
      clear HB1 HG1
      have e2 := tcell_blk HI.out.2.1 2
      simp only [List.getElem?_toArray, List.getElem?_cons_zero, List.getElem?_cons_succ] at e2
      by_cases hlt : i < kn
      · have hik : i < kids.length := by rw [HKN.out]; exact hlt
        obtain ⟨b3, o3, p', k', a', n', c', rfl, KD⟩ := HX.out.kid i hik
        obtain ⟨b4, o4, p4, k4, a4, n4, c4, rfl, KE⟩ := HY.out.kid i hik
        have hk1 : (i : Int) < (kn : Int) := by omega
        have hk0 : (0 : Int) ≤ (i : Int) := by omega
        have HKC : Hid (∀ W, Below w.heap.size w W → W.cell? ⟨b3, o3 + i * 3, none⟩ = some (.int .i64 p') ∧ W.cell? ⟨b3, o3 + i * 3 + 1, none⟩ = some (.int .i64 k') ∧ W.cell? ⟨b3, o3 + i * 3 + 2, none⟩ = some (.slice a' n' c') ∧ W.cell? ⟨b4, o4 + i * 3, none⟩ = some (.int .i64 p4) ∧ W.cell? ⟨b4, o4 + i * 3 + 1, none⟩ = some (.int .i64 k4) ∧ W.cell? ⟨b4, o4 + i * 3 + 2, none⟩ = some (.slice a4 n4 c4)) := fun W hb => ⟨(hb.cell (p := ⟨b3, o3 + i * 3, none⟩) KD.lt).trans KD.c0, (hb.cell (p := ⟨b3, o3 + i * 3 + 1, none⟩) KD.lt).trans KD.c1, (hb.cell (p := ⟨b3, o3 + i * 3 + 2, none⟩) KD.lt).trans KD.c2, (hb.cell (p := ⟨b4, o4 + i * 3, none⟩) KE.lt).trans KE.c0, (hb.cell (p := ⟨b4, o4 + i * 3 + 1, none⟩) KE.lt).trans KE.c1, (hb.cell (p := ⟨b4, o4 + i * 3 + 2, none⟩) KE.lt).trans KE.c2⟩
        have HBW : Hid (∀ X : Kp (Sb wr), Below w.heap.size w X.W) := fun X => HI.out.1.trans (X.h.mono HI.out.1.size)
        have HCL : Hid (∀ X : Kp (Sb wr), Calls Try.prog 12 #[.agg #[.int .i64 p', .int .i64 k', .slice a' n' c'], .agg #[.int .i64 p4, .int .i64 k4, .slice a4 n4 c4]] X.W fun e w'' => e = .returned (.bool true) ∧ ∃ Y : Kp (Sb wr), w'' = Y.W) := fun X => Kp.calls X Sb.next (HIH.out kids[i] (HKS.out _ (List.getElem_mem hik)) _ _ P Q X.W (KD.tx.bel (HBW.out X)) (KE.tx.bel (HBW.out X)))
        go_upto_region 6 with fail
        clear e2 KD KE
        have hne : Nonempty (Kp (Sb wr)) := ⟨⟨_, Sb.drew wr⟩⟩
        have y2 : ∀ X : Kp (Sb wr), X.W.cell? ⟨w.heap.size, 2, none⟩ = some (.slice (some ⟨b3, o3, none⟩) kn cap) := fun X => tcell_blk (tbox_next HI.out.2.1 X.h) 2
        have y3 : ∀ X : Kp (Sb wr), X.W.cell? ⟨w.heap.size + 1, 2, none⟩ = some (.slice (some ⟨b4, o4, none⟩) kn cap2) := fun X => tcell_blk (tbox_next HI.out.2.2 X.h) 2
        have z0 : ∀ X : Kp (Sb wr), X.W.cell? ⟨b3, o3 + i * 3, none⟩ = some (.int .i64 p') := fun X => (HKC.out _ (HBW.out X)).1
        have z1 : ∀ X : Kp (Sb wr), X.W.cell? ⟨b3, o3 + i * 3 + 1, none⟩ = some (.int .i64 k') := fun X => (HKC.out _ (HBW.out X)).2.1
        have z2 : ∀ X : Kp (Sb wr), X.W.cell? ⟨b3, o3 + i * 3 + 2, none⟩ = some (.slice a' n' c') := fun X => (HKC.out _ (HBW.out X)).2.2.1
        have z3 : ∀ X : Kp (Sb wr), X.W.cell? ⟨b4, o4 + i * 3, none⟩ = some (.int .i64 p4) := fun X => (HKC.out _ (HBW.out X)).2.2.2.1
        have z4 : ∀ X : Kp (Sb wr), X.W.cell? ⟨b4, o4 + i * 3 + 1, none⟩ = some (.int .i64 k4) := fun X => (HKC.out _ (HBW.out X)).2.2.2.2.1
        have z5 : ∀ X : Kp (Sb wr), X.W.cell? ⟨b4, o4 + i * 3 + 2, none⟩ = some (.slice a4 n4 c4) := fun X => (HKC.out _ (HBW.out X)).2.2.2.2.2
        refine wp_region_kept mixed (by kernel_rfl) (Sb.drew wr) ?_
        repeat (go_big_quiet_step (first | (go_at_call 12; with_reducible exact HCL.out _)))
        refine wpQuiet_nil ?_
        intro W5 hw5
        obtain ⟨p5, rfl⟩ := hw5
        have HR5 : Hid (Below w.heap.size w p5.W ∧ p5.W.heap[w.heap.size]? = some (.cells #[.int .i64 p, .int .i64 k, .slice (some ⟨b3, o3, none⟩) kn cap] 32) ∧ p5.W.heap[w.heap.size + 1]? = some (.cells #[.int .i64 p, .int .i64 k, .slice (some ⟨b4, o4, none⟩) kn cap2] 32)) := ⟨HBW.out p5, tbox_next HI.out.2.1 p5.h, tbox_next HI.out.2.2 p5.h⟩
        generalize p5.W = w5 at HR5 ⊢
        clear y2 y3 z0 z1 z2 z3 z4 z5 hne p5
        go_wp2_with fail
        go_roundw
        case rel => exact ⟨i + 1, by omega, by go_num, HR5⟩
        case measure => simp [intOf]; omega
      · have hk1 : ¬ (i : Int) < (kn : Int) := by omega
        go_wp2_with fail
        go_ret
        exact ⟨by simp, HI.out.1⟩
theorem same_true (t : T) (va vb : Value) (P Q : Nat → Prop) (w : World) (h : Tx w P va t) (k : Tx w Q vb t) :
    Calls Try.prog 12 #[va, vb] w fun e w' => e = .returned (.bool true) ∧ Below w.heap.size w w' := same_all t.sz t (Nat.le_refl _) va vb P Q w h k
end Go.Proofs.Ytpfehghicaaghaa
