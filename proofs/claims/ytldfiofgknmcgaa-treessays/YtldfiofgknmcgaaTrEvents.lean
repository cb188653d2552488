/-
  The contract of pushref.Events: the events of a tree of the right form.
-/
import Derived.Test.YtldfiofgknmcgaaTrApp
namespace Go.Proofs.Ytldfiofgknmcgaa
open Go.RowKit
open Cg

set_option maxHeartbeats 8000000 in
set_option maxRecDepth 20000 in
theorem RevD_all (ps : List Pd) (P : Nat → Prop) (m : Nat) : ∀ (t : T), t.sz ≤ m → ∀ (v : Value) (s : Sy) (w : World), Tx w P v t → sh ps t s = true → (evD t).length ≤ 100000 →
    Calls Try.prog 18 #[v, .bool true] w fun e w' => ∃ ra rn rc, e = .returned (.slice ra rn rc) ∧ Dn w (.slice ra rn rc) (evD t) w' := by
  induction m with
  | zero => intro t hm; have := t.sz_pos; omega
  | succ m ih =>
    intro t hm v s w hx hsh hl
    have HIH : Hid _ := ih
    clear ih
    obtain ⟨p, k, ao, cap, kids, vals, rfl, rfl, hkm, -, -⟩ := hx.shape
    have HX : Hid (Tx w P (.agg #[.int .i64 p, .int .i64 k, .slice ao kids.length cap]) (.mk p k kids)) := hx
    have HKS : Hid (∀ s ∈ kids, s.sz ≤ m) := fun s hs => by have := T.sz_lt (t := .mk p k kids) hs; omega
    obtain ⟨i1, hi1, hy0, hy1, hy2⟩ := info_parts info41
    have HE : Hid (evD (.mk p k kids) = if p = -1 then [(2, k)] else (1, p) :: (evDL kids ++ [(3, p)])) := by show _ = _; rw [evD]
    have HBOX : Hid ((w.alloc (Obj.cells #[.int .i64 p, .int .i64 k, .slice ao kids.length cap] 27)).heap[w.heap.size]? = some (.cells #[.int .i64 p, .int .i64 k, .slice ao kids.length cap] 27)) := heap_alloc_new _ _
    have HB1 : Hid (Below w.heap.size w (w.alloc (Obj.cells #[.int .i64 p, .int .i64 k, .slice ao kids.length cap] 27))) := below_alloc _ _
    have HLT : Hid ((evD (.mk p k kids)).length ≤ 100000) := hl
    have HPN : Hid (p < 0 → p = -1) := fun h => by
      have h1 := (sh_neg hsh).1 h
      exact (sh_leaf hsh).2 h1
    have HSH : Hid (¬ p < 0 → shL ps kids (bodyOf ps p) = true) := fun h => by
      have h4 : s.1 ≠ 1 := fun e => h ((sh_neg hsh).2 e)
      exact (sh_node hsh h4).2.2.2
    clear hx hl hsh
    go_enter Try.func18, Try.ntmps18
    go_upto_region 1 with fail
    obtain ⟨g, HGG⟩ : ∃ g, Hid (w.heap.size = g) := ⟨_, (rfl : w.heap.size = w.heap.size)⟩
    rw [HGG.out] at HBOX ⊢
    generalize w.alloc (Obj.cells #[.int .i64 p, .int .i64 k, .slice ao kids.length cap] 27) = w1 at HBOX HB1 ⊢
    have e0 := tcell_blk HBOX.out 0
    have e1 := tcell_blk HBOX.out 1
    have e2 := tcell_blk HBOX.out 2
    simp only [List.getElem?_toArray, List.getElem?_cons_zero, List.getElem?_cons_succ] at e0 e1 e2
    by_cases hp : p < 0
    · have hp1 := HPN.out hp
      subst hp1
      have HE2 : Hid (evD (.mk (-1) k kids) = [(2, k)]) := by show _ = _; rw [HE.out, if_pos rfl]
      go_wp2_with fail
      go_ret
      rw [HE2.out]
      exact ⟨_, _, _, rfl, ⟨rfl, Or.inr ⟨_, _, _, rfl, HB1.out.size, heap_alloc_new _ _, by simp, by unfold maxLen; omega, rfl, rfl⟩⟩, HB1.out.trans ((below_alloc _ _).mono HB1.out.size)⟩
    · have hpb : decide (p < 0) = false := by simp; omega
      have hpn : p ≠ -1 := by omega
      have HE2 : Hid (evD (.mk p k kids) = (1, p) :: (evDL kids ++ [(3, p)])) := by show _ = _; rw [HE.out, if_neg hpn]
      have HLN0 : Hid (((1, p) :: evDL kids).length + 1 ≤ 100000) := by have := HLT.out; rw [HE2.out] at this; show _ ≤ _; simp at this ⊢; omega
      have HSL : Hid (shL ps kids (bodyOf ps p) = true) := HSH.out hp
      clear hp HE HLT hpn HPN HSH
      have HLN : Hid (0 + 1 ≤ 100000) := by show _ ≤ _; omega
      have HSZ : Hid (w.heap.size ≤ w1.heap.size) := HB1.out.size
      have HD1 : Hid (Dn w (.slice none 0 0) [] w1) := Dn.nil w HB1.out
      have hown := HD1.out.own
      rw [show ([] : List Ev).length = 0 from rfl] at hown
      go_upto_region 5 with fail
      go_wp2_with (at_builtin; refine wpList_append_lies _ rfl _ _ 34 rfl w.heap.size 41 i1 (.agg #[.int .i64 0, .int .i64 0]) 2 16 Try.underlying34 hi1 hy0 hy1 hy2 rfl (by decide) _ _ _ rfl (hown.alloc _) ⟨(w1).heap.size, 0, none⟩ 1 1 [.int .i64 1, .int .i64 p] rfl rfl (World.news_of_block (t := 41) (fr := (0, 0)) (heap_alloc_new (w1) _)) (by simp [Value.oneCell']) (by omega) (by unfold maxLen; have := HLN.out; omega) (by have := HLN.out; omega) (by have := HSZ.out; simp; omega) _ rfl ?_)
      intro gr cr V hown' hgrow hor hlt
      have HD2 : Hid (Dn w (.slice (some ⟨gr, 0, none⟩) (0 + 1) cr) [(1, p)] V ∧ V.heap[g]? = some (.cells #[.int .i64 p, .int .i64 k, .slice ao kids.length cap] 27)) := by
        have := HD1.out.grow (x := (1, p)) hgrow hown'
        exact ⟨this.1, this.2.2 _ _ _ _ HBOX.out (by unfold Z41; omega)⟩
      clear hown' hgrow hor hlt hown HD1 HBOX e0 e1 e2 HLN HSZ
      obtain ⟨sa, sn, sc, HSV⟩ : ∃ sa sn sc, Hid (Value.slice (some ⟨gr, 0, none⟩) (0 + 1) cr = Value.slice sa sn sc) := ⟨_, _, _, (rfl : Value.slice (some ⟨gr, 0, none⟩) (0 + 1) cr = Value.slice (some ⟨gr, 0, none⟩) (0 + 1) cr)⟩
      rw [HSV.out] at HD2
      try rw [show (0 : Nat) + 1 = 1 from rfl] at HSV
      try rw [HSV.out]
      clear HSV
      go_upto_region 7 with fail
      go_loopw [5, 6] (fun x y wr => ∃ (i : Nat) (a : Option Addr) (xn c : Nat), i ≤ kids.length ∧ x = .slice a xn c ∧ y = .int .i64 (i : Int) ∧ Hid (Dn w (.slice a xn c) ([(1, p)] ++ evDL (kids.take i)) wr ∧ wr.heap[g]? = some (.cells #[.int .i64 p, .int .i64 k, .slice ao kids.length cap] 27))) (fun _ y _ => kids.length - (intOf y).toNat)
      case atStart =>
        refine ⟨0, _, _, _, by omega, rfl, rfl, ?_⟩
        rw [List.take_zero, evDL, List.append_nil]
        exact HD2
      case round =>
        obtain ⟨i, sa9, sn9, sc9, hi, rfl, rfl, HI⟩ := hrel
        clear HD2
        have e0 := tcell_blk HI.out.2 0
        have e2 := tcell_blk HI.out.2 2
        simp only [List.getElem?_toArray, List.getElem?_cons_zero, List.getElem?_cons_succ] at e0 e2
        by_cases hlt : i < kids.length
        · obtain ⟨b2, o2, p', k', a', n', c', rfl, KD⟩ := HX.out.kid i hlt
          have HT : Hid (evDL (kids.take (i + 1)) = evDL (kids.take i) ++ evD kids[i] ∧ (evDL (kids.take i)).length + (evD kids[i]).length ≤ (evDL kids).length) := by
            have h1 : evDL (kids.take (i + 1)) = evDL (kids.take i) ++ evD kids[i] := by
              rw [List.take_succ_eq_append_getElem hlt, evDL_append]
              simp [evDL]
            refine ⟨h1, ?_⟩
            have h2 : evDL kids = evDL (kids.take (i + 1)) ++ evDL (kids.drop (i + 1)) := by rw [← evDL_append, List.take_append_drop]
            rw [h2, h1, List.length_append, List.length_append]; omega
          have HCL : Hid (Calls Try.prog 18 #[.agg #[.int .i64 p', .int .i64 k', .slice a' n' c'], .bool true] wr fun e w' => ∃ ra rn rc, e = .returned (.slice ra rn rc) ∧ Dn wr (.slice ra rn rc) (evD kids[i]) w') := HIH.out kids[i] (HKS.out _ (List.getElem_mem hlt)) _ _ _ (KD.tx.bel HI.out.1.bel) (shL_at HSL.out i hlt) (by have h1 := HT.out.2; have h2 := HLN0.out; simp at h2 ⊢; omega)
          have q0 : wr.cell? ⟨b2, o2 + i * 3, none⟩ = some (.int .i64 p') := (HI.out.1.bel.cell (p := ⟨b2, o2 + i * 3, none⟩) KD.lt).trans KD.c0
          have q1 : wr.cell? ⟨b2, o2 + i * 3 + 1, none⟩ = some (.int .i64 k') := (HI.out.1.bel.cell (p := ⟨b2, o2 + i * 3 + 1, none⟩) KD.lt).trans KD.c1
          have q2 : wr.cell? ⟨b2, o2 + i * 3 + 2, none⟩ = some (.slice a' n' c') := (HI.out.1.bel.cell (p := ⟨b2, o2 + i * 3 + 2, none⟩) KD.lt).trans KD.c2
          have hk1 : (i : Int) < (kids.length : Int) := by omega
          have hk0 : (0 : Int) ≤ (i : Int) := by omega
          clear KD
          go_wp2_with fail
          refine HCL.out.mono ?_
          rintro _ W5 ⟨ra, rn, rc, rfl, hd5⟩
          obtain ⟨ua, un, uc, V, hrun, hdv, hfv⟩ := (HI.out.1.next hd5.bel).app hd5.own (by have h1 := HT.out.2; have h2 := HLN0.out; simp at h2 ⊢; omega)
          have HRUN : Hid _ := hrun
          have HR5 : Hid (Dn w (.slice ua un uc) ([(1, p)] ++ evDL (kids.take (i + 1))) V ∧ V.heap[g]? = some (.cells #[.int .i64 p, .int .i64 k, .slice (some ⟨b2, o2, none⟩) kids.length cap] 27)) :=
            ⟨by rw [HT.out.1, ← List.append_assoc]; exact hdv, hfv.2 _ _ _ _ (tbox_next HI.out.2 hd5.bel) (by unfold Z41; omega)⟩
          clear hd5 hrun hdv hfv q0 q1 q2 e0 e2
          go_wp2_with (at_builtin; refine wpList_append_run rfl _ _ 34 rfl _ _ rfl rfl HRUN.out ?_)
          go_roundw
          case rel => exact ⟨i + 1, _, _, _, by omega, rfl, by go_num, HR5⟩
          case measure => simp [intOf]; omega
        · have hk1 : ¬ (i : Int) < (kids.length : Int) := by omega
          have h4 := HI.out
          rw [List.take_of_length_le (by omega : kids.length ≤ i)] at h4
          have HI2 : Hid _ := h4
          clear h4 HI
          obtain ⟨le, HLE⟩ : ∃ le, Hid ([(1, p)] ++ evDL kids = le) := ⟨_, (rfl : [(1, p)] ++ evDL kids = [(1, p)] ++ evDL kids)⟩
          have HLN : Hid (le.length + 1 ≤ 100000) := by
            show _ ≤ _
            rw [← HLE.out]
            have h2 := HLN0.out
            simp at h2 ⊢; omega
          have HE3 : Hid (evD (.mk p k kids) = le ++ [(3, p)]) := by show _ = _; rw [HE2.out, ← HLE.out]; simp
          clear HE2
          have hown := HI2.out.1.own
          rw [HLE.out] at hown
          have HSZ : Hid (w.heap.size ≤ wr.heap.size) := HI2.out.1.bel.size
          obtain ⟨ya, yc, hye⟩ := own_len hown
          simp only [Value.slice.injEq] at hye
          obtain ⟨rfl, rfl, rfl⟩ := hye
          obtain ⟨len9, HL9⟩ : ∃ n9, Hid (le.length = n9) := ⟨_, (rfl : le.length = le.length)⟩
          rw [HL9.out] at hown HLN ⊢
          go_wp2_with (at_builtin; refine wpList_append_lies _ rfl _ _ 34 rfl w.heap.size 41 i1 (.agg #[.int .i64 0, .int .i64 0]) 2 16 Try.underlying34 hi1 hy0 hy1 hy2 rfl (by decide) _ _ _ rfl (hown.alloc _) ⟨(wr).heap.size, 0, none⟩ 1 1 [.int .i64 3, .int .i64 p] rfl rfl (World.news_of_block (t := 41) (fr := (0, 0)) (heap_alloc_new (wr) _)) (by simp [Value.oneCell']) (by omega) (by unfold maxLen; have := HLN.out; omega) (by have := HLN.out; omega) (by have := HSZ.out; simp; omega) _ rfl ?_)
          intro gr cr V hown' hgrow hor hlt
          have HFIN : Hid (Dn w (.slice (some ⟨gr, 0, none⟩) (len9 + 1) cr) (le ++ [(3, p)]) V) := by
            have h5 := HI2.out.1
            rw [HLE.out, HL9.out] at h5
            exact (h5.grow (x := (3, p)) hgrow (by rw [HL9.out]; exact hown')).1
          clear hown' hgrow hor hlt hown
          go_wp2_with fail
          go_ret
          refine ⟨_, _, _, rfl, ?_⟩
          rw [HE3.out]
          exact HFIN.out

set_option maxHeartbeats 8000000 in
set_option maxRecDepth 20000 in
theorem RevU_all (ps : List Pd) (P : Nat → Prop) (m : Nat) : ∀ (t : T), t.sz ≤ m → ∀ (v : Value) (s : Sy) (w : World), Tx w P v t → sh ps t s = true → (evU t).length ≤ 100000 →
    Calls Try.prog 18 #[v, .bool false] w fun e w' => ∃ ra rn rc, e = .returned (.slice ra rn rc) ∧ Dn w (.slice ra rn rc) (evU t) w' := by
  induction m with
  | zero => intro t hm; have := t.sz_pos; omega
  | succ m ih =>
    intro t hm v s w hx hsh hl
    have HIH : Hid _ := ih
    clear ih
    obtain ⟨p, k, ao, cap, kids, vals, rfl, rfl, hkm, -, -⟩ := hx.shape
    have HX : Hid (Tx w P (.agg #[.int .i64 p, .int .i64 k, .slice ao kids.length cap]) (.mk p k kids)) := hx
    have HKS : Hid (∀ s ∈ kids, s.sz ≤ m) := fun s hs => by have := T.sz_lt (t := .mk p k kids) hs; omega
    obtain ⟨i1, hi1, hy0, hy1, hy2⟩ := info_parts info41
    have HE : Hid (evU (.mk p k kids) = if p = -1 then [(2, k)] else (evUL kids ++ [(4, p)])) := by show _ = _; rw [evU]
    have HBOX : Hid ((w.alloc (Obj.cells #[.int .i64 p, .int .i64 k, .slice ao kids.length cap] 27)).heap[w.heap.size]? = some (.cells #[.int .i64 p, .int .i64 k, .slice ao kids.length cap] 27)) := heap_alloc_new _ _
    have HB1 : Hid (Below w.heap.size w (w.alloc (Obj.cells #[.int .i64 p, .int .i64 k, .slice ao kids.length cap] 27))) := below_alloc _ _
    have HLT : Hid ((evU (.mk p k kids)).length ≤ 100000) := hl
    have HPN : Hid (p < 0 → p = -1) := fun h => by
      have h1 := (sh_neg hsh).1 h
      exact (sh_leaf hsh).2 h1
    have HSH : Hid (¬ p < 0 → shL ps kids (bodyOf ps p) = true) := fun h => by
      have h4 : s.1 ≠ 1 := fun e => h ((sh_neg hsh).2 e)
      exact (sh_node hsh h4).2.2.2
    clear hx hl hsh
    go_enter Try.func18, Try.ntmps18
    go_upto_region 1 with fail
    obtain ⟨g, HGG⟩ : ∃ g, Hid (w.heap.size = g) := ⟨_, (rfl : w.heap.size = w.heap.size)⟩
    rw [HGG.out] at HBOX ⊢
    generalize w.alloc (Obj.cells #[.int .i64 p, .int .i64 k, .slice ao kids.length cap] 27) = w1 at HBOX HB1 ⊢
    have e0 := tcell_blk HBOX.out 0
    have e1 := tcell_blk HBOX.out 1
    have e2 := tcell_blk HBOX.out 2
    simp only [List.getElem?_toArray, List.getElem?_cons_zero, List.getElem?_cons_succ] at e0 e1 e2
    by_cases hp : p < 0
    · have hp1 := HPN.out hp
      subst hp1
      have HE2 : Hid (evU (.mk (-1) k kids) = [(2, k)]) := by show _ = _; rw [HE.out, if_pos rfl]
      go_wp2_with fail
      go_ret
      rw [HE2.out]
      exact ⟨_, _, _, rfl, ⟨rfl, Or.inr ⟨_, _, _, rfl, HB1.out.size, heap_alloc_new _ _, by simp, by unfold maxLen; omega, rfl, rfl⟩⟩, HB1.out.trans ((below_alloc _ _).mono HB1.out.size)⟩
    · have hpb : decide (p < 0) = false := by simp; omega
      have hpn : p ≠ -1 := by omega
      have HE2 : Hid (evU (.mk p k kids) = (evUL kids ++ [(4, p)])) := by show _ = _; rw [HE.out, if_neg hpn]
      have HLN0 : Hid ((evUL kids).length + 1 ≤ 100000) := by have := HLT.out; rw [HE2.out] at this; show _ ≤ _; simp at this ⊢; omega
      have HSL : Hid (shL ps kids (bodyOf ps p) = true) := HSH.out hp
      clear hp HE HLT hpn HPN HSH
      have HD2 : Hid (Dn w (.slice none 0 0) [] w1 ∧ w1.heap[g]? = some (.cells #[.int .i64 p, .int .i64 k, .slice ao kids.length cap] 27)) := ⟨Dn.nil w HB1.out, HBOX.out⟩
      clear HBOX e1
      go_upto_region 7 with fail
      go_loopw [5, 6] (fun x y wr => ∃ (i : Nat) (a : Option Addr) (xn c : Nat), i ≤ kids.length ∧ x = .slice a xn c ∧ y = .int .i64 (i : Int) ∧ Hid (Dn w (.slice a xn c) ([] ++ evUL (kids.take i)) wr ∧ wr.heap[g]? = some (.cells #[.int .i64 p, .int .i64 k, .slice ao kids.length cap] 27))) (fun _ y _ => kids.length - (intOf y).toNat)
      case atStart =>
        refine ⟨0, _, _, _, by omega, rfl, rfl, ?_⟩
        rw [List.take_zero, evUL, List.append_nil]
        exact HD2
      case round =>
        obtain ⟨i, sa9, sn9, sc9, hi, rfl, rfl, HI⟩ := hrel
        clear HD2
        have e0 := tcell_blk HI.out.2 0
        have e2 := tcell_blk HI.out.2 2
        simp only [List.getElem?_toArray, List.getElem?_cons_zero, List.getElem?_cons_succ] at e0 e2
        by_cases hlt : i < kids.length
        · obtain ⟨b2, o2, p', k', a', n', c', rfl, KD⟩ := HX.out.kid i hlt
          have HT : Hid (evUL (kids.take (i + 1)) = evUL (kids.take i) ++ evU kids[i] ∧ (evUL (kids.take i)).length + (evU kids[i]).length ≤ (evUL kids).length) := by
            have h1 : evUL (kids.take (i + 1)) = evUL (kids.take i) ++ evU kids[i] := by
              rw [List.take_succ_eq_append_getElem hlt, evUL_append]
              simp [evUL]
            refine ⟨h1, ?_⟩
            have h2 : evUL kids = evUL (kids.take (i + 1)) ++ evUL (kids.drop (i + 1)) := by rw [← evUL_append, List.take_append_drop]
            rw [h2, h1, List.length_append, List.length_append]; omega
          have HCL : Hid (Calls Try.prog 18 #[.agg #[.int .i64 p', .int .i64 k', .slice a' n' c'], .bool false] wr fun e w' => ∃ ra rn rc, e = .returned (.slice ra rn rc) ∧ Dn wr (.slice ra rn rc) (evU kids[i]) w') := HIH.out kids[i] (HKS.out _ (List.getElem_mem hlt)) _ _ _ (KD.tx.bel HI.out.1.bel) (shL_at HSL.out i hlt) (by have h1 := HT.out.2; have h2 := HLN0.out; simp at h2 ⊢; omega)
          have q0 : wr.cell? ⟨b2, o2 + i * 3, none⟩ = some (.int .i64 p') := (HI.out.1.bel.cell (p := ⟨b2, o2 + i * 3, none⟩) KD.lt).trans KD.c0
          have q1 : wr.cell? ⟨b2, o2 + i * 3 + 1, none⟩ = some (.int .i64 k') := (HI.out.1.bel.cell (p := ⟨b2, o2 + i * 3 + 1, none⟩) KD.lt).trans KD.c1
          have q2 : wr.cell? ⟨b2, o2 + i * 3 + 2, none⟩ = some (.slice a' n' c') := (HI.out.1.bel.cell (p := ⟨b2, o2 + i * 3 + 2, none⟩) KD.lt).trans KD.c2
          have hk1 : (i : Int) < (kids.length : Int) := by omega
          have hk0 : (0 : Int) ≤ (i : Int) := by omega
          clear KD
          go_wp2_with fail
          refine HCL.out.mono ?_
          rintro _ W5 ⟨ra, rn, rc, rfl, hd5⟩
          obtain ⟨ua, un, uc, V, hrun, hdv, hfv⟩ := (HI.out.1.next hd5.bel).app hd5.own (by have h1 := HT.out.2; have h2 := HLN0.out; simp at h2 ⊢; omega)
          have HRUN : Hid _ := hrun
          have HR5 : Hid (Dn w (.slice ua un uc) ([] ++ evUL (kids.take (i + 1))) V ∧ V.heap[g]? = some (.cells #[.int .i64 p, .int .i64 k, .slice (some ⟨b2, o2, none⟩) kids.length cap] 27)) :=
            ⟨by rw [HT.out.1, ← List.append_assoc]; exact hdv, hfv.2 _ _ _ _ (tbox_next HI.out.2 hd5.bel) (by unfold Z41; omega)⟩
          clear hd5 hrun hdv hfv q0 q1 q2 e0 e2
          go_wp2_with (at_builtin; refine wpList_append_run rfl _ _ 34 rfl _ _ rfl rfl HRUN.out ?_)
          go_roundw
          case rel => exact ⟨i + 1, _, _, _, by omega, rfl, by go_num, HR5⟩
          case measure => simp [intOf]; omega
        · have hk1 : ¬ (i : Int) < (kids.length : Int) := by omega
          have h4 := HI.out
          rw [List.take_of_length_le (by omega : kids.length ≤ i)] at h4
          have HI2 : Hid _ := h4
          clear h4 HI
          obtain ⟨le, HLE⟩ : ∃ le, Hid ([] ++ evUL kids = le) := ⟨_, (rfl : [] ++ evUL kids = [] ++ evUL kids)⟩
          have HLN : Hid (le.length + 1 ≤ 100000) := by
            show _ ≤ _
            rw [← HLE.out]
            have h2 := HLN0.out
            simp at h2 ⊢; omega
          have HE3 : Hid (evU (.mk p k kids) = le ++ [(4, p)]) := by show _ = _; rw [HE2.out, ← HLE.out]; simp
          clear HE2
          have hown := HI2.out.1.own
          rw [HLE.out] at hown
          have HSZ : Hid (w.heap.size ≤ wr.heap.size) := HI2.out.1.bel.size
          obtain ⟨ya, yc, hye⟩ := own_len hown
          simp only [Value.slice.injEq] at hye
          obtain ⟨rfl, rfl, rfl⟩ := hye
          obtain ⟨len9, HL9⟩ : ∃ n9, Hid (le.length = n9) := ⟨_, (rfl : le.length = le.length)⟩
          rw [HL9.out] at hown HLN ⊢
          go_wp2_with (at_builtin; refine wpList_append_lies _ rfl _ _ 34 rfl w.heap.size 41 i1 (.agg #[.int .i64 0, .int .i64 0]) 2 16 Try.underlying34 hi1 hy0 hy1 hy2 rfl (by decide) _ _ _ rfl (hown.alloc _) ⟨(wr).heap.size, 0, none⟩ 1 1 [.int .i64 4, .int .i64 p] rfl rfl (World.news_of_block (t := 41) (fr := (0, 0)) (heap_alloc_new (wr) _)) (by simp [Value.oneCell']) (by omega) (by unfold maxLen; have := HLN.out; omega) (by have := HLN.out; omega) (by have := HSZ.out; simp; omega) _ rfl ?_)
          intro gr cr V hown' hgrow hor hlt
          have HFIN : Hid (Dn w (.slice (some ⟨gr, 0, none⟩) (len9 + 1) cr) (le ++ [(4, p)]) V) := by
            have h5 := HI2.out.1
            rw [HLE.out, HL9.out] at h5
            exact (h5.grow (x := (4, p)) hgrow (by rw [HL9.out]; exact hown')).1
          clear hown' hgrow hor hlt hown
          go_wp2_with fail
          go_ret
          refine ⟨_, _, _, rfl, ?_⟩
          rw [HE3.out]
          exact HFIN.out
end Go.Proofs.Ytldfiofgknmcgaa
