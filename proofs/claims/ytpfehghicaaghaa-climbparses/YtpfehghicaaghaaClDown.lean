/-
  The contracts of trees.down and trees.Down.
-/
import Derived.Test.YtpfehghicaaghaaClA
import Derived.Test.YtpfehghicaaghaaTrYield
namespace Go.Proofs.Ytpfehghicaaghaa
open Go.RowKit
open Cg

set_option maxHeartbeats 8000000 in
set_option maxRecDepth 20000 in
theorem down_all (w0 : World) (P : Nat → Prop) (m : Nat) : ∀ (t : T), t.sz ≤ m → ∀ (v lv : Value) (l : List Ev) (w : World), Tx w0 P v t → l.length + (evD t).length ≤ 100000 → Dn w0 lv l w →
    Calls Try.prog 84 #[lv, v] w fun e w' => ∃ ra rn rc, e = .returned (.slice ra rn rc) ∧ Dn w0 (.slice ra rn rc) (l ++ evD t) w' ∧ Fy Z66 w w' := by
  induction m with
  | zero => intro t hm; have := t.sz_pos; omega
  | succ m ih =>
    intro t hm v lv l w hx hl hd
    have HIH : Hid _ := ih
    clear ih
    obtain ⟨p, k, ao, cap, kids, vals, rfl, rfl, hkm, -, -⟩ := hx.shape
    have HX : Hid (Tx w0 P (.agg #[.int .i64 p, .int .i64 k, .slice ao kids.length cap]) (.mk p k kids)) := hx
    have HKS : Hid (∀ s ∈ kids, s.sz ≤ m) := fun s hs => by have := T.sz_lt (t := .mk p k kids) hs; omega
    have HD : Hid (Dn w0 lv l w) := hd
    obtain ⟨la, lc, rfl⟩ := own_len hd.own
    obtain ⟨ln, HLL⟩ : ∃ ln, Hid (l.length = ln) := ⟨_, (rfl : l.length = l.length)⟩
    obtain ⟨i1, hi1, hy0, hy1, hy2⟩ := info_parts info66
    have HE : Hid (evD (.mk p k kids) = if p = -1 then [(2, k)] else (1, p) :: (evDL kids ++ [(3, p)])) := by show _ = _; rw [evD]
    have HBOX : Hid ((w.alloc (Obj.cells #[.int .i64 p, .int .i64 k, .slice ao kids.length cap] 32)).heap[w.heap.size]? = some (.cells #[.int .i64 p, .int .i64 k, .slice ao kids.length cap] 32)) := heap_alloc_new _ _
    have HD1 : Hid (Dn w0 (.slice la l.length lc) l (w.alloc (Obj.cells #[.int .i64 p, .int .i64 k, .slice ao kids.length cap] 32))) := HD.out.next (below_alloc _ _)
    have HF1 : Hid (Fy Z66 w (w.alloc (Obj.cells #[.int .i64 p, .int .i64 k, .slice ao kids.length cap] 32))) := Fy.of (below_alloc _ _)
    have HLT : Hid (l.length + (evD (.mk p k kids)).length ≤ 100000) := hl
    clear hx hd hl
    rw [HLL.out] at HD HD1 HLT ⊢
    go_enter Try.func84, Try.ntmps84
    go_upto_region 1 with fail
    obtain ⟨g, HGG⟩ : ∃ g, Hid (w.heap.size = g) := ⟨_, (rfl : w.heap.size = w.heap.size)⟩
    rw [HGG.out] at HBOX ⊢
    generalize w.alloc (Obj.cells #[.int .i64 p, .int .i64 k, .slice ao kids.length cap] 32) = w1 at HBOX HD1 HF1 ⊢
    have e0 := tcell_blk HBOX.out 0
    have e1 := tcell_blk HBOX.out 1
    have e2 := tcell_blk HBOX.out 2
    simp only [List.getElem?_toArray, List.getElem?_cons_zero, List.getElem?_cons_succ] at e0 e1 e2
    have HSZ : Hid (w0.heap.size ≤ w1.heap.size) := HD1.out.bel.size
    by_cases hp : p = -1
    · subst hp
      have HE2 : Hid (evD (.mk (-1) k kids) = [(2, k)]) := by show _ = _; rw [HE.out, if_pos rfl]
      have HLN : Hid (ln + 1 ≤ 100000) := by have := HLT.out; rw [HE2.out] at this; exact this
      have hown := HD1.out.own
      rw [HLL.out] at hown
      go_wp2_with (at_builtin; refine wpList_append_lies _ rfl _ _ 51 rfl w0.heap.size 66 i1 (.agg #[.int .i64 0, .int .i64 0]) 2 16 Try.underlying51 hi1 hy0 hy1 hy2 rfl (by decide) _ _ _ rfl (hown.alloc _) ⟨(w1).heap.size, 0, none⟩ 1 1 [.int .i64 2, .int .i64 k] rfl rfl (World.news_of_block (t := 66) (fr := (0, 0)) (heap_alloc_new (w1) _)) (by simp [Value.oneCell']) (by omega) (by unfold maxLen; have := HLN.out; omega) (by have := HLN.out; omega) (by have := HSZ.out; simp; omega) _ rfl ?_)
      intro gr cr V hown' hgrow hor hlt
      have HFIN : Hid (Dn w0 (.slice (some ⟨gr, 0, none⟩) (ln + 1) cr) (l ++ [(2, k)]) V ∧ Fy Z66 w V) := by
        have := HD1.out.grow (x := (2, k)) hgrow (by rw [HLL.out]; exact hown')
        exact ⟨this.1, HF1.out.trans this.2⟩
      clear hown' hgrow hor hlt hown
      go_wp2_with fail
      go_ret
      rw [HE2.out]
      exact ⟨_, _, _, rfl, HFIN.out.1, HFIN.out.2⟩
    · have hpb : (p == -1) = false := by simp; exact hp
      have HE2 : Hid (evD (.mk p k kids) = (1, p) :: (evDL kids ++ [(3, p)])) := by show _ = _; rw [HE.out, if_neg hp]
      have HLN0 : Hid (ln + (((1, p) :: evDL kids).length + 1) ≤ 100000) := by have := HLT.out; rw [HE2.out] at this; show _ ≤ _; simp at this ⊢; omega
      clear hp HE HLT
      have HLN : Hid (ln + 1 ≤ 100000) := by have := HLN0.out; simp at this; show _ ≤ _; omega
      have hown := HD1.out.own
      rw [HLL.out] at hown
      go_upto_region 3 with fail
      go_wp2_with (at_builtin; refine wpList_append_lies _ rfl _ _ 51 rfl w0.heap.size 66 i1 (.agg #[.int .i64 0, .int .i64 0]) 2 16 Try.underlying51 hi1 hy0 hy1 hy2 rfl (by decide) _ _ _ rfl (hown.alloc _) ⟨(w1).heap.size, 0, none⟩ 1 1 [.int .i64 1, .int .i64 p] rfl rfl (World.news_of_block (t := 66) (fr := (0, 0)) (heap_alloc_new (w1) _)) (by simp [Value.oneCell']) (by omega) (by unfold maxLen; have := HLN.out; omega) (by have := HLN.out; omega) (by have := HSZ.out; simp; omega) _ rfl ?_)
      intro gr cr V hown' hgrow hor hlt
      have HD2 : Hid (Dn w0 (.slice (some ⟨gr, 0, none⟩) (ln + 1) cr) (l ++ [(1, p)]) V ∧ Fy Z66 w V ∧ V.heap[g]? = some (.cells #[.int .i64 p, .int .i64 k, .slice ao kids.length cap] 32)) := by
        have := HD1.out.grow (x := (1, p)) hgrow (by rw [HLL.out]; exact hown')
        exact ⟨this.1, HF1.out.trans this.2, this.2.2 _ _ _ _ HBOX.out (by unfold Z66; omega)⟩
      clear hown' hgrow hor hlt hown HD1 HF1 HBOX e0 e1 e2 HLN HSZ
      have e2 := tcell_blk HD2.out.2.2 2
      simp only [List.getElem?_toArray, List.getElem?_cons_zero, List.getElem?_cons_succ] at e2
      obtain ⟨sa, sn, sc, HSV⟩ : ∃ sa sn sc, Hid (Value.slice (some ⟨gr, 0, none⟩) (ln + 1) cr = Value.slice sa sn sc) := ⟨_, _, _, (rfl : Value.slice (some ⟨gr, 0, none⟩) (ln + 1) cr = Value.slice (some ⟨gr, 0, none⟩) (ln + 1) cr)⟩
      rw [HSV.out] at HD2 ⊢
      clear HSV
      go_upto_region 5 with fail
      clear e2
      go_loopw [0, 25] (fun x y wr => ∃ (i : Nat) (a : Option Addr) (xn c : Nat), i ≤ kids.length ∧ x = .slice a xn c ∧ y = .int .i64 (i : Int) ∧ Hid (Dn w0 (.slice a xn c) (l ++ [(1, p)] ++ evDL (kids.take i)) wr ∧ Fy Z66 w wr ∧ wr.heap[g]? = some (.cells #[.int .i64 p, .int .i64 k, .slice ao kids.length cap] 32))) (fun _ y _ => kids.length - (intOf y).toNat)
      case atStart =>
        refine ⟨0, _, _, _, by omega, rfl, rfl, ?_⟩
        rw [List.take_zero, evDL, List.append_nil]
        exact HD2
      case round =>
        obtain ⟨i, sa9, sn9, sc9, hi, rfl, rfl, HI⟩ := hrel
        clear HD2
        by_cases hlt : i < kids.length
        · obtain ⟨b2, o2, p', k', a', n', c', rfl, KD⟩ := HX.out.kid i hlt
          have HT : Hid (evDL (kids.take (i + 1)) = evDL (kids.take i) ++ evD kids[i] ∧ (evDL (kids.take i)).length + (evD kids[i]).length ≤ (evDL kids).length) := by
            have h1 : evDL (kids.take (i + 1)) = evDL (kids.take i) ++ evD kids[i] := by
              rw [List.take_succ_eq_append_getElem hlt, evDL_append]
              simp [evDL]
            refine ⟨h1, ?_⟩
            have h2 : evDL kids = evDL (kids.take (i + 1)) ++ evDL (kids.drop (i + 1)) := by rw [← evDL_append, List.take_append_drop]
            rw [h2, h1, List.length_append, List.length_append]; omega
          have HWA : Hid (Below wr.heap.size wr (wr.alloc (Obj.cells #[.int .i64 p', .int .i64 k', .slice a' n' c'] 32))) := below_alloc _ _
          have HCL : Hid (Calls Try.prog 84 #[.slice sa9 sn9 sc9, .agg #[.int .i64 p', .int .i64 k', .slice a' n' c']] (wr.alloc (Obj.cells #[.int .i64 p', .int .i64 k', .slice a' n' c'] 32)) fun e w' => ∃ ra rn rc, e = .returned (.slice ra rn rc) ∧ Dn w0 (.slice ra rn rc) (l ++ [(1, p)] ++ evDL (kids.take i) ++ evD kids[i]) w' ∧ Fy Z66 (wr.alloc (Obj.cells #[.int .i64 p', .int .i64 k', .slice a' n' c'] 32)) w') := HIH.out kids[i] (HKS.out _ (List.getElem_mem hlt)) _ _ _ _ KD.tx (by have h1 := HT.out.2; have h2 := HLN0.out; simp [HLL.out] at h2 ⊢; omega) (HI.out.1.next HWA.out)
          have q0 : wr.cell? ⟨b2, o2 + i * 3, none⟩ = some (.int .i64 p') := (HI.out.1.bel.cell (p := ⟨b2, o2 + i * 3, none⟩) KD.lt).trans KD.c0
          have q1 : wr.cell? ⟨b2, o2 + i * 3 + 1, none⟩ = some (.int .i64 k') := (HI.out.1.bel.cell (p := ⟨b2, o2 + i * 3 + 1, none⟩) KD.lt).trans KD.c1
          have q2 : wr.cell? ⟨b2, o2 + i * 3 + 2, none⟩ = some (.slice a' n' c') := (HI.out.1.bel.cell (p := ⟨b2, o2 + i * 3 + 2, none⟩) KD.lt).trans KD.c2
          have hk1 : (i : Int) < (kids.length : Int) := by omega
          have hk0 : (0 : Int) ≤ (i : Int) := by omega
          clear KD
          go_wp2_with fail
          refine HCL.out.mono ?_
          rintro _ W5 ⟨ra, rn, rc, rfl, hd5, hf5⟩
          have HR5 : Hid (Dn w0 (.slice ra rn rc) (l ++ [(1, p)] ++ evDL (kids.take (i + 1))) W5 ∧ Fy Z66 w W5 ∧ W5.heap[g]? = some (.cells #[.int .i64 p, .int .i64 k, .slice (some ⟨b2, o2, none⟩) kids.length cap] 32)) :=
            ⟨by rw [HT.out.1, ← List.append_assoc]; exact hd5, HI.out.2.1.trans ((Fy.of HWA.out).trans hf5), hf5.2 _ _ _ _ (tbox_next HI.out.2.2 HWA.out) (by unfold Z66; omega)⟩
          clear hd5 hf5 q0 q1 q2
          go_wp2_with fail
          go_roundw
          case rel => exact ⟨i + 1, _, _, _, by omega, rfl, by go_num, HR5⟩
          case measure => simp [intOf]; omega
        · have hk1 : ¬ (i : Int) < (kids.length : Int) := by omega
          have h4 := HI.out
          rw [List.take_of_length_le (by omega : kids.length ≤ i)] at h4
          have HI2 : Hid _ := h4
          clear h4 HI
          obtain ⟨le, HLE⟩ : ∃ le, Hid (l ++ [(1, p)] ++ evDL kids = le) := ⟨_, (rfl : l ++ [(1, p)] ++ evDL kids = l ++ [(1, p)] ++ evDL kids)⟩
          have HLN : Hid (le.length + 1 ≤ 100000) := by
            show _ ≤ _
            rw [← HLE.out]
            have h2 := HLN0.out
            simp [HLL.out] at h2 ⊢; omega
          have e0 := tcell_blk HI2.out.2.2 0
          simp only [List.getElem?_toArray, List.getElem?_cons_zero] at e0
          have hown := HI2.out.1.own
          rw [HLE.out] at hown
          have HSZ : Hid (w0.heap.size ≤ wr.heap.size) := HI2.out.1.bel.size
          obtain ⟨ya, yc, hye⟩ := own_len hown
          simp only [Value.slice.injEq] at hye
          obtain ⟨rfl, rfl, rfl⟩ := hye
          obtain ⟨len9, HL9⟩ : ∃ n9, Hid (le.length = n9) := ⟨_, (rfl : le.length = le.length)⟩
          rw [HL9.out] at hown HLN ⊢
          go_wp2_with (at_builtin; refine wpList_append_lies _ rfl _ _ 51 rfl w0.heap.size 66 i1 (.agg #[.int .i64 0, .int .i64 0]) 2 16 Try.underlying51 hi1 hy0 hy1 hy2 rfl (by decide) _ _ _ rfl (hown.alloc _) ⟨(wr).heap.size, 0, none⟩ 1 1 [.int .i64 3, .int .i64 p] rfl rfl (World.news_of_block (t := 66) (fr := (0, 0)) (heap_alloc_new (wr) _)) (by simp [Value.oneCell']) (by omega) (by unfold maxLen; have := HLN.out; omega) (by have := HLN.out; omega) (by have := HSZ.out; simp; omega) _ rfl ?_)
          intro gr cr V hown' hgrow hor hlt
          have HFIN : Hid (Dn w0 (.slice (some ⟨gr, 0, none⟩) (len9 + 1) cr) (le ++ [(3, p)]) V ∧ Fy Z66 w V) := by
            have h5 := HI2.out.1
            rw [HLE.out, HL9.out] at h5
            have := h5.grow (x := (3, p)) hgrow (by rw [HL9.out]; exact hown')
            exact ⟨this.1, HI2.out.2.1.trans this.2⟩
          clear hown' hgrow hor hlt hown
          go_wp2_with fail
          go_ret
          refine ⟨_, _, _, rfl, ?_, HFIN.out.2⟩
          rw [HE2.out, show l ++ ((1, p) :: (evDL kids ++ [(3, p)])) = le ++ [(3, p)] by rw [← HLE.out]; simp]
          exact HFIN.out.1

/-- What Down leaves. -/
def DownP (w : World) (t n : Int) (ps : List Pd) (x : T) (yv : Value) (w' : World) : Prop := Below w.heap.size w w' ∧ if errT t n ps x = 0 then w'.ownsRow w.heap.size 66 2 yv (evD x).length (ecs (evD x)) else yv = .slice none 0 0
set_option maxHeartbeats 4000000 in
set_option maxRecDepth 20000 in
theorem Down_any (tt n : Int) (pv : Value) (ps : List Pd) (v : Value) (t : T) (P : Nat → Prop) (w : World) (hp : Pds w pv ps) (hx : Tx w P v t) :
    Calls Try.prog 60 #[.agg #[.int .i64 tt, .int .i64 n, pv], v] w fun e w' => ∃ ya yn yc, e = .returned (.tuple #[.slice ya yn yc, .int .i64 (errT tt n ps t)]) ∧ DownP w tt n ps t (.slice ya yn yc) w' := by
  have HP : Hid (Pds w pv ps) := hp
  have HX : Hid (Tx w P v t) := hx
  obtain ⟨ga, gc, rfl, -, -⟩ := hp
  obtain ⟨p, k, ao, cap, kids, vals, rfl, rfl, -⟩ := hx.shape
  obtain ⟨gm, HGM⟩ : ∃ gm, Hid (ps.length = gm) := ⟨_, (rfl : ps.length = ps.length)⟩
  obtain ⟨tn, HTN⟩ : ∃ tn, Hid (kids.length = tn) := ⟨_, (rfl : kids.length = kids.length)⟩
  rw [HGM.out] at HP ⊢
  rw [HTN.out] at HX ⊢
  clear hx
  obtain ⟨x, HXT⟩ : ∃ x, Hid (T.mk p k kids = x) := ⟨_, (rfl : T.mk p k kids = T.mk p k kids)⟩
  rw [HXT.out] at HX ⊢
  obtain ⟨er, HER⟩ : ∃ er, Hid (errT tt n ps x = er) := ⟨_, (rfl : errT tt n ps x = errT tt n ps x)⟩
  rw [HER.out]
  have HB1 : Hid (Below w.heap.size w ((w.alloc (Obj.cells #[.int .i64 tt, .int .i64 n, .slice ga gm gc] 24)).alloc (Obj.cells #[.int .i64 p, .int .i64 k, .slice ao tn cap] 32))) := below_alloc2 _ _ _
  have HG1 : Hid (((w.alloc (Obj.cells #[.int .i64 tt, .int .i64 n, .slice ga gm gc] 24)).alloc (Obj.cells #[.int .i64 p, .int .i64 k, .slice ao tn cap] 32)).heap[w.heap.size + 1]? = some (.cells #[.int .i64 p, .int .i64 k, .slice ao tn cap] 32)) := by
    have := heap_alloc_new (w.alloc (Obj.cells #[.int .i64 tt, .int .i64 n, .slice ga gm gc] 24)) (Obj.cells #[.int .i64 p, .int .i64 k, .slice ao tn cap] 32)
    rw [show (w.alloc (Obj.cells #[.int .i64 tt, .int .i64 n, .slice ga gm gc] 24)).heap.size = w.heap.size + 1 by simp] at this
    exact this
  go_enter Try.func60, Try.ntmps60
  go_wp2_with fail
  have hc := TCheck_any tt n _ ps _ _ P _ (HP.out.below HB1.out) (HX.out.bel HB1.out)
  rw [HER.out] at hc
  refine hc.mono ?_
  rintro _ w2 ⟨rfl, hb2⟩
  have HB2 : Hid (Below w.heap.size w w2) := HB1.out.trans (hb2.mono HB1.out.size)
  have HG2 : Hid (w2.heap[w.heap.size + 1]? = some (.cells #[.int .i64 p, .int .i64 k, .slice ao tn cap] 32)) := tbox_next HG1.out hb2
  clear hc hb2 HG1 HB1
  by_cases hr : er = 0
  · subst hr
    have HLE : Hid ((evD x).length ≤ 100000) := by
      have h1 := HER.out
      unfold errT at h1
      by_cases h2 : chk tt n ps = 0
      · rw [if_pos h2] at h1
        have h3 : (thr ps x (2, 0) 1 0 []).1 = 0 := by omega
        have h4 := thr_fwd (ps := ps) (t := x) (s := (2, 0)) (d := 1) (n := 0) (ws := []) (n' := (thr ps x (2, 0) 1 0 []).2.1) (ws' := (thr ps x (2, 0) 1 0 []).2.2) (trip h3)
        have h5 := ev_len x
        show _ ≤ _
        omega
      · rw [if_neg h2] at h1; exact absurd h1 h2
    have e0 := tcell_blk HG2.out 0
    have e1 := tcell_blk HG2.out 1
    have e2 := tcell_blk HG2.out 2
    simp only [List.getElem?_toArray, List.getElem?_cons_zero, List.getElem?_cons_succ] at e0 e1 e2
    go_wp2_with fail
    have hc := down_all w P x.sz x (Nat.le_refl _) _ (.slice none 0 0) [] w2 HX.out (by have := HLE.out; simp; omega) (Dn.nil w HB2.out)
    refine hc.mono ?_
    rintro _ w3 ⟨ra, rn, rc, rfl, hd3, hf3⟩
    have HD3 : Hid (Dn w (.slice ra rn rc) (evD x) w3) := by rw [List.nil_append] at hd3; exact hd3
    clear hc hd3 hf3 e0 e1 e2
    go_wp2_with fail
    go_ret2
    refine ⟨_, _, _, rfl, HD3.out.bel, ?_⟩
    rw [if_pos HER.out]
    exact HD3.out.own
  · have hb : (er != 0) = true := by simp; exact hr
    have HRN : Hid (¬ er = 0) := hr
    clear hr
    go_wp2_with fail
    go_ret2
    refine ⟨_, _, _, rfl, HB2.out, ?_⟩
    rw [HER.out, if_neg HRN.out]

end Go.Proofs.Ytpfehghicaaghaa
