/-
  The contract of trees.built: the tree whose events from below these are, if there is one.
-/
import Derived.Test.YtldfiofgknmcgabTrDone2
import Derived.Test.YtldfiofgknmcgabTrEndsW
import Derived.Test.YtldfiofgknmcgabTrEnds
namespace Go.Proofs.Ytldfiofgknmcgab
open Go.RowKit
open Cg

structure RBu (w1 V : World) (eb lo : Nat) (x0 x1 : Int) (da : Option Addr) (m c : Nat) (ka : Option Addr) (kn kc : Nat) (vs2 : List Value) (st2 : List T) (gb : Nat) (ua : Option Addr) (un : Nat) (uc : Nat) (d : Nat → Bool) (x6 x73 x74 x75 x76 x77 x78 x79 x80 x81 : Value) (W : World) : Prop where
  f0 : d 0 = true → x73 = (.slice da m c)
  f1 : d 1 = true → x74 = (.int .i64 (lo : Int))
  f2 : d 2 = true → x75 = (.slice da lo c)
  f3 : d 3 = true → x76 = (.pointer (some ⟨eb, 1, none⟩))
  f4 : d 4 = true → x77 = (.int .i64 x1)
  f5 : d 5 = true → x78 = (.slice ka kn kc)
  f6 : d 6 = true → x79 = (.agg #[.int .i64 x1, .int .i64 0, .slice ka kn kc])
  f7 : d 7 = true → x80 = (.slice (some ⟨gb, 0, none⟩) 1 1)
  f8 : d 8 = true → x81 = (.slice ua un uc)
  f9 : d 9 = true → x6 = (.slice ua un uc)
  o9_8 : d 9 = true → d 8 = true
  o8_7 : d 8 = true → d 7 = true
  o8_2 : d 8 = true → d 2 = true
  o2_0 : d 2 = true → d 0 = true
  o7_6 : d 7 = true → d 6 = true
  o6_4 : d 6 = true → d 4 = true
  s6 : d 9 = false → x6 = (.slice da m c)
  bw : d 8 = false → Below V.heap.size V W
  r7 : d 7 = true → d 8 = false → W.heap[gb]? = some (.cells #[.int .i64 x1, .int .i64 0, .slice ka kn kc] 27)
  r8 : d 8 = true → Dt w1 (.slice ua un uc) vs2 st2 W

/-- What built leaves. -/
def BtP (w : World) (r : Option T) (v : Value) (b : Bool) (w' : World) : Prop := Below w.heap.size w w' ∧ match r with
  | some t => b = true ∧ Tx w' (fun b => w.heap.size ≤ b) v t
  | none => b = false ∧ v = .agg #[.int .i64 0, .int .i64 0, .slice none 0 0]
def BtQ (w : World) (r : Option T) (e : Ending) (w' : World) : Prop := ∃ p k da m c b, e = .returned (.tuple #[.agg #[.int .i64 p, .int .i64 k, .slice da m c], .bool b]) ∧ BtP w r (.agg #[.int .i64 p, .int .i64 k, .slice da m c]) b w'
theorem Cg.brun_snoc {ps : List Pd} {l : List Ev} {e : Ev} {st : List T} {lv : Nat} (h : brun ps l [] 0 = some (st, lv)) : brun ps (l ++ [e]) [] 0 = bstep ps st lv e := by
  rw [brun_append, h]
  show brun ps [e] st lv = _
  rw [brun]
  cases bstep ps st lv e with
  | none => rfl
  | some r => rfl
theorem Cg.brun_none {ps : List Pd} {l m : List Ev} (h : brun ps l [] 0 = none) : built ps (l ++ m) = none := by
  unfold built; rw [brun_append, h]

set_option maxHeartbeats 16000000 in
set_option maxRecDepth 20000 in
theorem built_any (tt n : Int) (pv : Value) (ps : List Pd) (lv : Value) (l : List Ev) (w : World) (hp : Pds w pv ps) (h : Evs w lv l) (hl : l.length ≤ 100000) :
    Calls Try.prog 32 #[.agg #[.int .i64 tt, .int .i64 n, pv], lv] w fun e w' => BtQ w (built ps l) e w' := by
  have HP : Hid (Pds w pv ps) := hp
  obtain ⟨ga, gc, rfl, -, -⟩ := hp
  obtain ⟨la, lc, rfl, hlm, hlc⟩ := h
  have HLC0 : Hid (l = [] ∨ ∃ b o, la = some ⟨b, o, none⟩ ∧ b < w.heap.size ∧ ∀ i (hi : i < l.length), w.cell? ⟨b, o + i * 2, none⟩ = some (.int .i64 l[i].1) ∧ w.cell? ⟨b, o + i * 2 + 1, none⟩ = some (.int .i64 l[i].2)) := hlc
  clear hlc
  obtain ⟨gm, HGM⟩ : ∃ gm, Hid (ps.length = gm) := ⟨_, (rfl : ps.length = ps.length)⟩
  rw [HGM.out] at HP ⊢
  obtain ⟨N, HN⟩ : ∃ n, Hid (l.length = n) := ⟨_, (rfl : l.length = _)⟩
  rw [HN.out] at hl hlm ⊢
  obtain ⟨res, HRES⟩ : ∃ res, Hid (built ps l = res) := ⟨_, (rfl : built ps l = _)⟩
  have HBW : Hid (Below w.heap.size w ((w.alloc (Obj.cells #[.int .i64 tt, .int .i64 n, .slice ga gm gc] 24)).alloc (Obj.cells #[.int .i64 0, .int .i64 0, .slice none 0 0] 27))) := below_alloc2 _ _ _
  have HBX : Hid (((w.alloc (Obj.cells #[.int .i64 tt, .int .i64 n, .slice ga gm gc] 24)).alloc (Obj.cells #[.int .i64 0, .int .i64 0, .slice none 0 0] 27)).heap[w.heap.size]? = some (.cells #[.int .i64 tt, .int .i64 n, .slice ga gm gc] 24) ∧ ((w.alloc (Obj.cells #[.int .i64 tt, .int .i64 n, .slice ga gm gc] 24)).alloc (Obj.cells #[.int .i64 0, .int .i64 0, .slice none 0 0] 27)).heap[w.heap.size + 1]? = some (.cells #[.int .i64 0, .int .i64 0, .slice none 0 0] 27) ∧ w.heap.size + 1 < ((w.alloc (Obj.cells #[.int .i64 tt, .int .i64 n, .slice ga gm gc] 24)).alloc (Obj.cells #[.int .i64 0, .int .i64 0, .slice none 0 0] 27)).heap.size) := by
    have g1 := heap_alloc_new (w.alloc (Obj.cells #[.int .i64 tt, .int .i64 n, .slice ga gm gc] 24)) (Obj.cells #[.int .i64 0, .int .i64 0, .slice none 0 0] 27)
    rw [show (w.alloc (Obj.cells #[.int .i64 tt, .int .i64 n, .slice ga gm gc] 24)).heap.size = w.heap.size + 1 by simp] at g1
    exact ⟨tbox_next (heap_alloc_new _ _) (below_alloc _ _), g1, by simp⟩
  go_enter Try.func32, Try.ntmps32
  go_upto_region 4 with fail
  generalize ((w.alloc (Obj.cells #[.int .i64 tt, .int .i64 n, .slice ga gm gc] 24)).alloc (Obj.cells #[.int .i64 0, .int .i64 0, .slice none 0 0] 27)) = w1 at HBW HBX ⊢
  have HD0 : Hid (Dt w1 (.slice none 0 0) [] [] w1) := Dt.nil w1 (Below.refl _ _)
  go_loopw [6, 7, 14] (fun x y z wr => ∃ (i lv : Nat) (da : Option Addr) (m c : Nat), i ≤ N ∧ x = .slice da m c ∧ y = .int .i64 (lv : Int) ∧ z = .int .i64 (i : Int) ∧ lv ≤ i ∧ Hid (∃ vs st, brun ps (l.take i) [] 0 = some (st, lv) ∧ st.length ≤ i ∧ Dt w1 (.slice da m c) vs st wr)) (fun _ _ z _ => N - (intOf z).toNat)
  case atStart => exact ⟨0, 0, _, _, _, by omega, rfl, rfl, rfl, by omega, [], [], rfl, by simp, HD0.out⟩
  case round =>
    obtain ⟨i, lv, da, m, c, hi, rfl, rfl, rfl, hlv, HI⟩ := hrel
    clear HD0
    obtain ⟨vs, st, hbr, hsl, hdt⟩ := HI.out
    have HBR : Hid (brun ps (l.take i) [] 0 = some (st, lv)) := hbr
    have HSL : Hid (st.length ≤ i) := hsl
    have HDT0 : Hid (Dt w1 (.slice da m c) vs st wr) := hdt
    clear HI hbr hsl hdt
    by_cases hlt : i < N
    · have hil : i < l.length := by rw [HN.out]; exact hlt
      obtain ⟨b1, o1, rfl, q1, q2⟩ := HLC0.out.resolve_left (by intro e; subst e; simp at hil)
      have hk1 : (i : Int) < (N : Int) := by omega
      have hk0 : (0 : Int) ≤ (i : Int) := by omega
      have hbel : Below w.heap.size w wr := HBW.out.trans (HDT0.out.bel.mono HBW.out.size)
      have c1 : wr.cell? ⟨b1, o1 + i * 2, none⟩ = some (.int .i64 l[i].1) := (hbel.cell (p := ⟨b1, o1 + i * 2, none⟩) q1).trans (q2 i hil).1
      have c2 : wr.cell? ⟨b1, o1 + i * 2 + 1, none⟩ = some (.int .i64 l[i].2) := (hbel.cell (p := ⟨b1, o1 + i * 2 + 1, none⟩) q1).trans (q2 i hil).2
      have HTK : Hid (brun ps (l.take (i + 1)) [] 0 = bstep ps st lv l[i]) := by
        show _ = _
        rw [List.take_succ_eq_append_getElem hil]; exact brun_snoc HBR.out
      generalize l[i] = ev at c1 c2 HTK
      obtain ⟨x0, x1⟩ := ev
      simp only at c1 c2
      have HNO : Hid (bstep ps st lv (x0, x1) = none → res = none) := fun e => by
        rw [← HRES.out, ← List.take_append_drop (i + 1) l]
        exact brun_none (HTK.out.trans e)
      have HG2 : Hid ((wr.alloc (Obj.cells #[.int .i64 x0, .int .i64 x1] 46)).heap[w.heap.size]? = some (.cells #[.int .i64 tt, .int .i64 n, .slice ga gm gc] 24) ∧ (wr.alloc (Obj.cells #[.int .i64 x0, .int .i64 x1] 46)).heap[wr.heap.size]? = some (.cells #[.int .i64 x0, .int .i64 x1] 46)) :=
        ⟨tbox_next ((HDT0.out.bel.block _ (heap_lt3 HBX.out.1)).trans HBX.out.1) (below_alloc _ _), heap_alloc_new _ _⟩
      have HD2 : Hid (Dt w1 (.slice da m c) vs st (wr.alloc (Obj.cells #[.int .i64 x0, .int .i64 x1] 46))) := HDT0.out.next (below_alloc _ _)
      go_upto_region 7 with fail
      obtain ⟨eb, HEBN⟩ : ∃ eb, Hid (wr.heap.size = eb) := ⟨_, (rfl : wr.heap.size = _)⟩
      rw [HEBN.out] at HG2 ⊢
      generalize wr.alloc (Obj.cells #[.int .i64 x0, .int .i64 x1] 46) = w2 at HG2 HD2 ⊢
      clear c1 c2 q2 hbel HDT0 HEBN
      have g2 := tcell_blk HG2.out.1 2
      have e0 := tcell_blk HG2.out.2 0
      have e1 := tcell_blk HG2.out.2 1
      simp only [List.getElem?_toArray, List.getElem?_cons_zero, List.getElem?_cons_succ] at g2 e0 e1
      have hvw := HD2.out.view (by have := HSL.out; omega)
      obtain ⟨rfl, hmc, hvx⟩ := hvw
      have HVX : Hid (Tx w2 (fun _ => True) (.agg #[.int .i64 0, .int .i64 0, .slice da st.length c]) (.mk 0 0 st)) := hvx
      clear hvx
      obtain ⟨sn, HSN⟩ : ∃ sn, Hid (st.length = sn) := ⟨_, (rfl : st.length = _)⟩
      have hsn : sn ≤ i := by rw [← HSN.out]; exact HSL.out
      by_cases h2 : x0 = 2
      · subst h2
        have hb2 : ((2 : Int) == 2) = true := rfl
        by_cases h3 : x1 = (lv : Int)
        · subst h3
          have hb3 : ((lv : Int) == (lv : Int)) = true := by simp
          have HST : Hid (bstep ps st lv (2, (lv : Int)) = some (st ++ [.mk (-1) (lv : Int) []], lv + 1)) := by show _ = _; unfold bstep; simp
          obtain ⟨ra, rm, rc, V, hrun, hdv⟩ := (HD2.out.next (below_alloc w2 (Obj.cells #[.int .i64 (-1), .int .i64 (lv : Int), .slice none 0 0] 27))).app2 (heap_alloc_new _ _) (Tx.mk (-1) (lv : Int) none 0 [] (fun _ => undef) (by simp) (Or.inl rfl) (fun i hi => absurd hi (Nat.not_lt_zero _))) (by rw [HSN.out]; omega)
          rw [HSN.out] at hrun
          have HRUN : Hid _ := hrun
          have HR : Hid (∃ vs st', brun ps (l.take (i + 1)) [] 0 = some (st', lv + 1) ∧ st'.length ≤ i + 1 ∧ Dt w1 (.slice ra rm rc) vs st' V) := ⟨_, _, HTK.out.trans HST.out, by rw [List.length_append, HSN.out]; simp; omega, hdv⟩
          rw [HSN.out]
          clear hrun hdv
          go_wp2_with (at_builtin; refine wpList_append_run rfl _ _ 25 rfl _ _ rfl rfl HRUN.out ?_)
          go_roundw
          case rel => exact ⟨i + 1, lv + 1, _, _, _, by omega, rfl, by go_num, by go_num, by omega, HR⟩
          case measure => simp [intOf]; omega
        · have hb3 : (x1 == (lv : Int)) = false := by simp; exact h3
          have hb4 : ((2 : Int) == 4) = false := rfl
          obtain rfl : none = res := (HNO.out (by unfold bstep; simp [h3])).symm
          clear h3
          rw [HSN.out]
          go_upto_region 10 with fail
          have hne : Nonempty (Kp (Sb w2)) := ⟨⟨_, Sb.drew w2⟩⟩
          have y0 : ∀ X : Kp (Sb w2), X.W.cell? ⟨w.heap.size, 0, none⟩ = some (.int .i64 tt) := fun X => tcell_blk (tbox_next HG2.out.1 X.h) 0
          have y1 : ∀ X : Kp (Sb w2), X.W.cell? ⟨w.heap.size, 1, none⟩ = some (.int .i64 n) := fun X => tcell_blk (tbox_next HG2.out.1 X.h) 1
          have y2 : ∀ X : Kp (Sb w2), X.W.cell? ⟨w.heap.size, 2, none⟩ = some (.slice ga gm gc) := fun X => tcell_blk (tbox_next HG2.out.1 X.h) 2
          have y3 : ∀ X : Kp (Sb w2), X.W.cell? ⟨eb, 0, none⟩ = some (.int .i64 2) := fun X => tcell_blk (tbox_next HG2.out.2 X.h) 0
          have y4 : ∀ X : Kp (Sb w2), X.W.cell? ⟨eb, 1, none⟩ = some (.int .i64 x1) := fun X => tcell_blk (tbox_next HG2.out.2 X.h) 1
          refine wp_region_kept mixed (by kernel_rfl) (Sb.drew w2) ?_
          repeat (go_big_quiet_step (fail))
          refine wpQuiet_nil ?_
          intro W5 hw5
          obtain ⟨p5, rfl⟩ := hw5
          have HB5 : Hid (Below w2.heap.size w2 p5.W) := p5.h
          generalize p5.W = w5 at HB5 ⊢
          clear y0 y1 y2 y3 y4 hne p5 e0 e1
          have HGR : w5.heap[w.heap.size + 1]? = some (.cells #[.int .i64 0, .int .i64 0, .slice none 0 0] 27) := ((HD2.out.next HB5.out).bel.block _ HBX.out.2.2).trans HBX.out.2.1
          have HV := set3_blk HGR (.int .i64 0) (.int .i64 0) (.slice none 0 0)
          have HBV : Hid (Below w.heap.size w (set3 w5 (w.heap.size + 1) (.int .i64 0) (.int .i64 0) (.slice none 0 0))) := set3_bel (HBW.out.trans ((HD2.out.next HB5.out).bel.mono HBW.out.size)) (by omega)
          have HSS : Hid (Below w1.heap.size w1 w5 ) := (HD2.out.next HB5.out).bel
          have r0 := tcell_blk HGR 0
          have r1 := tcell_blk HGR 1
          have r2 := tcell_blk HGR 2
          have f0 := tfrozen_blk HGR 0
          have f1 := tfrozen_blk HGR 1
          have f2 := tfrozen_blk HGR 2
          simp only [List.getElem?_toArray, List.getElem?_cons_zero, List.getElem?_cons_succ] at r0 r1 r2
          go_wp2_with fail
          rw [← set3_eq]
          generalize set3 w5 (w.heap.size + 1) (.int .i64 0) (.int .i64 0) (.slice none 0 0) = w9 at *
          have z0 := tcell_blk HV 0
          have z1 := tcell_blk HV 1
          have z2 := tcell_blk HV 2
          simp only [List.getElem?_toArray, List.getElem?_cons_zero, List.getElem?_cons_succ] at z0 z1 z2
          exact bodyPost_ret (v := .tuple #[.agg #[.int .i64 0, .int .i64 0, .slice none 0 0], .bool false]) (by simp [results, Try.results32, go_sem, z0, z1, z2]) rfl ⟨_, _, _, _, _, _, rfl, HBV.out, by rw [HRES.out]; exact ⟨rfl, rfl⟩⟩
      · have hb2 : (x0 == 2) = false := by simp; exact h2
        by_cases h4 : x0 = 4
        · subst h4
          have hb4 : ((4 : Int) == 4) = true := rfl
          obtain ⟨pr, HPR⟩ : ∃ pr, Hid (isPr ps x1 = pr) := ⟨_, (rfl : isPr ps x1 = _)⟩
          have HC53 : Hid (∀ X : Kp (Sb w2), Calls Try.prog 37 #[.agg #[.int .i64 tt, .int .i64 n, .slice ga gm gc], .int .i64 x1] X.W fun e w'' => e = .returned (.bool pr) ∧ ∃ Y : Kp (Sb w2), w'' = Y.W) := fun X => by
            have := isProd_any tt n ga gm gc ps HGM.out x1 X.W
            rw [HPR.out] at this
            exact Kp.calls X Sb.next this
          cases pr with
          | false =>
            obtain rfl : none = res := (HNO.out (by unfold bstep; simp [HPR.out])).symm
            rw [HSN.out]
            go_upto_region 10 with fail
            have hne : Nonempty (Kp (Sb w2)) := ⟨⟨_, Sb.drew w2⟩⟩
            have y0 : ∀ X : Kp (Sb w2), X.W.cell? ⟨w.heap.size, 0, none⟩ = some (.int .i64 tt) := fun X => tcell_blk (tbox_next HG2.out.1 X.h) 0
            have y1 : ∀ X : Kp (Sb w2), X.W.cell? ⟨w.heap.size, 1, none⟩ = some (.int .i64 n) := fun X => tcell_blk (tbox_next HG2.out.1 X.h) 1
            have y2 : ∀ X : Kp (Sb w2), X.W.cell? ⟨w.heap.size, 2, none⟩ = some (.slice ga gm gc) := fun X => tcell_blk (tbox_next HG2.out.1 X.h) 2
            have y3 : ∀ X : Kp (Sb w2), X.W.cell? ⟨eb, 0, none⟩ = some (.int .i64 4) := fun X => tcell_blk (tbox_next HG2.out.2 X.h) 0
            have y4 : ∀ X : Kp (Sb w2), X.W.cell? ⟨eb, 1, none⟩ = some (.int .i64 x1) := fun X => tcell_blk (tbox_next HG2.out.2 X.h) 1
            refine wp_region_kept mixed (by kernel_rfl) (Sb.drew w2) ?_
            repeat (go_big_quiet_step (first | (go_at_call 37; with_reducible exact HC53.out _)))
            refine wpQuiet_nil ?_
            intro W5 hw5
            obtain ⟨p5, rfl⟩ := hw5
            have HB5 : Hid (Below w2.heap.size w2 p5.W) := p5.h
            generalize p5.W = w5 at HB5 ⊢
            clear y0 y1 y2 y3 y4 hne p5 e0 e1
            have HGR : w5.heap[w.heap.size + 1]? = some (.cells #[.int .i64 0, .int .i64 0, .slice none 0 0] 27) := ((HD2.out.next HB5.out).bel.block _ HBX.out.2.2).trans HBX.out.2.1
            have HV := set3_blk HGR (.int .i64 0) (.int .i64 0) (.slice none 0 0)
            have HBV : Hid (Below w.heap.size w (set3 w5 (w.heap.size + 1) (.int .i64 0) (.int .i64 0) (.slice none 0 0))) := set3_bel (HBW.out.trans ((HD2.out.next HB5.out).bel.mono HBW.out.size)) (by omega)
            have HSS : Hid (Below w1.heap.size w1 w5 ) := (HD2.out.next HB5.out).bel
            have r0 := tcell_blk HGR 0
            have r1 := tcell_blk HGR 1
            have r2 := tcell_blk HGR 2
            have f0 := tfrozen_blk HGR 0
            have f1 := tfrozen_blk HGR 1
            have f2 := tfrozen_blk HGR 2
            simp only [List.getElem?_toArray, List.getElem?_cons_zero, List.getElem?_cons_succ] at r0 r1 r2
            go_wp2_with fail
            rw [← set3_eq]
            generalize set3 w5 (w.heap.size + 1) (.int .i64 0) (.int .i64 0) (.slice none 0 0) = w9 at *
            have z0 := tcell_blk HV 0
            have z1 := tcell_blk HV 1
            have z2 := tcell_blk HV 2
            simp only [List.getElem?_toArray, List.getElem?_cons_zero, List.getElem?_cons_succ] at z0 z1 z2
            exact bodyPost_ret (v := .tuple #[.agg #[.int .i64 0, .int .i64 0, .slice none 0 0], .bool false]) (by simp [results, Try.results32, go_sem, z0, z1, z2]) rfl ⟨_, _, _, _, _, _, rfl, HBV.out, by rw [HRES.out]; exact ⟨rfl, rfl⟩⟩
          | true =>
            have hle := isPr_le HPR.out
            obtain ⟨z, rfl⟩ : ∃ z : Nat, x1 = (z : Int) := ⟨x1.toNat, by omega⟩
            obtain ⟨b, o, bo, bc, rfl, -, hbl, -, hc1, hsy⟩ := Pds.prod HP.out HPR.out
            simp only [Int.toNat_natCast] at hc1
            obtain ⟨body, HBD⟩ : ∃ body, Hid (bodyOf ps (z : Int) = body) := ⟨_, (rfl : bodyOf ps (z : Int) = bodyOf ps (z : Int))⟩
            rw [HBD.out] at hc1 hsy
            have HW2 : Hid (Below w.heap.size w w2) := HBW.out.trans (HD2.out.bel.mono HBW.out.size)
            have HPC : Hid (∀ W, Below w.heap.size w W → W.cell? ⟨b, o + z * 2 + 1, none⟩ = some (.slice bo body.length bc)) := fun W hb => (hb.cell (p := ⟨b, o + z * 2 + 1, none⟩) hbl).trans hc1
            have HSY : Hid (Syms w (.slice bo body.length bc) body) := hsy
            have hz0 : (0 : Int) ≤ (z : Int) := by omega
            have hz : (z : Int) < (gm : Int) := by rw [← HGM.out]; exact hle.2
            have hz2 : z < gm := by omega
            clear hle hc1 hsy
            obtain ⟨ew, HEW⟩ : ∃ ew, Hid (endsW ps st body = ew) := ⟨_, (rfl : endsW ps st body = _)⟩
            have HC54 : Hid (∀ X : Kp (Sb w2), Calls Try.prog 38 #[.agg #[.int .i64 tt, .int .i64 n, .slice (some ⟨b, o, none⟩) gm gc], .slice da sn c, .slice bo body.length bc] X.W fun e w'' => e = .returned (.bool ew) ∧ ∃ Y : Kp (Sb w2), w'' = Y.W) := fun X => by
              have hbX := HW2.out.trans (X.h.mono HW2.out.size)
              have := endsWith_any tt n _ ps da c st _ body (fun _ => True) X.W (HP.out.below hbX) (HVX.out.bel X.h) hmc (HSY.out.below hbX)
              rw [HEW.out, HSN.out] at this
              exact Kp.calls X Sb.next this
            have y5 : ∀ X : Kp (Sb w2), X.W.cell? ⟨b, o + z * 2 + 1, none⟩ = some (.slice bo body.length bc) := fun X => HPC.out _ (HW2.out.trans (X.h.mono HW2.out.size))
            rw [HSN.out]
            cases ew with
            | false =>
              obtain rfl : none = res := (HNO.out (by unfold bstep; simp [HBD.out, HEW.out])).symm
              go_upto_region 10 with fail
              have hne : Nonempty (Kp (Sb w2)) := ⟨⟨_, Sb.drew w2⟩⟩
              have y0 : ∀ X : Kp (Sb w2), X.W.cell? ⟨w.heap.size, 0, none⟩ = some (.int .i64 tt) := fun X => tcell_blk (tbox_next HG2.out.1 X.h) 0
              have y1 : ∀ X : Kp (Sb w2), X.W.cell? ⟨w.heap.size, 1, none⟩ = some (.int .i64 n) := fun X => tcell_blk (tbox_next HG2.out.1 X.h) 1
              have y2 : ∀ X : Kp (Sb w2), X.W.cell? ⟨w.heap.size, 2, none⟩ = some (.slice (some ⟨b, o, none⟩) gm gc) := fun X => tcell_blk (tbox_next HG2.out.1 X.h) 2
              have y3 : ∀ X : Kp (Sb w2), X.W.cell? ⟨eb, 0, none⟩ = some (.int .i64 4) := fun X => tcell_blk (tbox_next HG2.out.2 X.h) 0
              have y4 : ∀ X : Kp (Sb w2), X.W.cell? ⟨eb, 1, none⟩ = some (.int .i64 (z : Int)) := fun X => tcell_blk (tbox_next HG2.out.2 X.h) 1
              refine wp_region_kept mixed (by kernel_rfl) (Sb.drew w2) ?_
              repeat (go_big_quiet_step (first | (go_at_call 37; with_reducible exact HC53.out _) | (go_at_call 38; with_reducible exact HC54.out _)))
              refine wpQuiet_nil ?_
              intro W5 hw5
              obtain ⟨p5, rfl⟩ := hw5
              have HB5 : Hid (Below w2.heap.size w2 p5.W) := p5.h
              generalize p5.W = w5 at HB5 ⊢
              clear y0 y1 y2 y3 y4 hne p5 e0 e1 y5
              have HGR : w5.heap[w.heap.size + 1]? = some (.cells #[.int .i64 0, .int .i64 0, .slice none 0 0] 27) := ((HD2.out.next HB5.out).bel.block _ HBX.out.2.2).trans HBX.out.2.1
              have HV := set3_blk HGR (.int .i64 0) (.int .i64 0) (.slice none 0 0)
              have HBV : Hid (Below w.heap.size w (set3 w5 (w.heap.size + 1) (.int .i64 0) (.int .i64 0) (.slice none 0 0))) := set3_bel (HBW.out.trans ((HD2.out.next HB5.out).bel.mono HBW.out.size)) (by omega)
              have HSS : Hid (Below w1.heap.size w1 w5 ) := (HD2.out.next HB5.out).bel
              have r0 := tcell_blk HGR 0
              have r1 := tcell_blk HGR 1
              have r2 := tcell_blk HGR 2
              have f0 := tfrozen_blk HGR 0
              have f1 := tfrozen_blk HGR 1
              have f2 := tfrozen_blk HGR 2
              simp only [List.getElem?_toArray, List.getElem?_cons_zero, List.getElem?_cons_succ] at r0 r1 r2
              go_wp2_with fail
              rw [← set3_eq]
              generalize set3 w5 (w.heap.size + 1) (.int .i64 0) (.int .i64 0) (.slice none 0 0) = w9 at *
              have z0 := tcell_blk HV 0
              have z1 := tcell_blk HV 1
              have z2 := tcell_blk HV 2
              simp only [List.getElem?_toArray, List.getElem?_cons_zero, List.getElem?_cons_succ] at z0 z1 z2
              exact bodyPost_ret (v := .tuple #[.agg #[.int .i64 0, .int .i64 0, .slice none 0 0], .bool false]) (by simp [results, Try.results32, go_sem, z0, z1, z2]) rfl ⟨_, _, _, _, _, _, rfl, HBV.out, by rw [HRES.out]; exact ⟨rfl, rfl⟩⟩
            | true =>
              obtain ⟨bl, HBL⟩ : ∃ bl, Hid (body.length = bl) := ⟨_, (rfl : body.length = _)⟩
              have hbs : bl ≤ sn := by
                have := HEW.out
                unfold endsW at this
                simp only [Bool.and_eq_true, decide_eq_true_eq] at this
                rw [← HBL.out, ← HSN.out]; exact this.1
              have HST : Hid (bstep ps st lv (4, (z : Int)) = some (st.take (sn - bl) ++ [.mk (z : Int) 0 (st.drop (sn - bl))], lv)) := by
                show _ = _
                unfold bstep
                simp only [HPR.out, HBD.out, HEW.out, HSN.out, HBL.out]
                simp
              go_upto_region 10 with fail
              have hne : Nonempty (Kp (Sb w2)) := ⟨⟨_, Sb.drew w2⟩⟩
              have y0 : ∀ X : Kp (Sb w2), X.W.cell? ⟨w.heap.size, 0, none⟩ = some (.int .i64 tt) := fun X => tcell_blk (tbox_next HG2.out.1 X.h) 0
              have y1 : ∀ X : Kp (Sb w2), X.W.cell? ⟨w.heap.size, 1, none⟩ = some (.int .i64 n) := fun X => tcell_blk (tbox_next HG2.out.1 X.h) 1
              have y2 : ∀ X : Kp (Sb w2), X.W.cell? ⟨w.heap.size, 2, none⟩ = some (.slice (some ⟨b, o, none⟩) gm gc) := fun X => tcell_blk (tbox_next HG2.out.1 X.h) 2
              have y3 : ∀ X : Kp (Sb w2), X.W.cell? ⟨eb, 0, none⟩ = some (.int .i64 4) := fun X => tcell_blk (tbox_next HG2.out.2 X.h) 0
              have y4 : ∀ X : Kp (Sb w2), X.W.cell? ⟨eb, 1, none⟩ = some (.int .i64 (z : Int)) := fun X => tcell_blk (tbox_next HG2.out.2 X.h) 1
              refine wp_region_kept mixed (by kernel_rfl) (Sb.drew w2) ?_
              repeat (go_big_quiet_step (first | (go_at_call 37; with_reducible exact HC53.out _) | (go_at_call 38; with_reducible exact HC54.out _)))
              refine wpQuiet_nil ?_
              intro W5 hw5
              obtain ⟨p5, rfl⟩ := hw5
              have HB5 : Hid (Below w2.heap.size w2 p5.W) := p5.h
              generalize p5.W = w5 at HB5 ⊢
              clear y0 y1 y2 y3 y4 hne p5 e0 e1 y5
              rw [HBL.out] at HPC HSY
              have HD5 : Hid (Dt w1 (.slice da st.length c) vs st w5) := HD2.out.next HB5.out
              have HE5 : Hid (w5.heap[eb]? = some (.cells #[.int .i64 4, .int .i64 (z : Int)] 46)) := tbox_next HG2.out.2 HB5.out
              rw [HSN.out] at HD5
              clear g2
              have g2 := tcell_blk (tbox_next HG2.out.1 HB5.out) 2
              have e1 := tcell_blk HE5.out 1
              simp only [List.getElem?_toArray, List.getElem?_cons_zero, List.getElem?_cons_succ] at g2 e1
              have v5 : w5.cell? ⟨b, o + z * 2 + 1, none⟩ = some (.slice bo bl bc) := HPC.out _ (HW2.out.trans (HB5.out.mono HW2.out.size))
              obtain ⟨lo, HLO⟩ : ∃ lo, Hid (sn - bl = lo) := ⟨_, (rfl : sn - bl = _)⟩
              have HLOI : Hid ((sn : Int) - (bl : Int) = (lo : Int)) := by have := HLO.out; show _ = _; omega
              rw [HLO.out] at HST
              have hls : lo ≤ sn := by have := HLO.out; omega
              obtain ⟨st2, HS2⟩ : ∃ st2, Hid (st.take lo ++ [T.mk (z : Int) 0 (st.drop lo)] = st2) := ⟨_, (rfl : st.take lo ++ [T.mk (z : Int) 0 (st.drop lo)] = _)⟩
              rw [HS2.out] at HST
              have HTK2 : Hid (brun ps (l.take (i + 1)) [] 0 = some (st2, lv)) := HTK.out.trans HST.out
              have HL2 : Hid (st2.length ≤ i + 1) := by show _ ≤ _; rw [← HS2.out, List.length_append, List.length_take, HSN.out]; simp; omega
              rw [HSN.out] at hmc
              have hsc : (sn : Int) ≤ (c : Int) := by omega
              go_upto_region 12 with fail
              rw [HLOI.out]
              have hlc : (lo : Int) ≤ (c : Int) := by omega
              have hl0 : (0 : Int) ≤ (lo : Int) := by omega
              have hlc2 : lo ≤ c := by omega
              have hlI : (lo : Int) ≤ (sn : Int) := by omega
              by_cases hcn : c = lo
              · subst hcn
                obtain ⟨ka, kn, kc, V, hrun, hko, hkb⟩ := HD5.out.last c 0 (by rw [HSN.out]; omega) (by rw [HSN.out]; omega) da 0 (Or.inl ⟨rfl, rfl, rfl⟩)
                have HRUN : Hid _ := hrun
                have HBV5 : Hid (Below w5.heap.size w5 V) := hkb
                have HEB : Hid (V.heap[eb]? = some (.cells #[.int .i64 4, .int .i64 (z : Int)] 46)) := tbox_next HE5.out hkb
                obtain ⟨vs2, HV2⟩ : ∃ vs2, Hid (vs.take c ++ [Value.agg #[.int .i64 (z : Int), .int .i64 0, .slice ka kn kc]] = vs2) := ⟨_, (rfl : vs.take c ++ [Value.agg #[.int .i64 (z : Int), .int .i64 0, .slice ka kn kc]] = _)⟩
                have HDT : Hid (Dt w1 (.slice da c c) (vs.take c) (st.take c) V ∧ Tx V (Pw w1 (.slice da c c)) (.agg #[.int .i64 (z : Int), .int .i64 0, .slice ka kn kc]) (.mk (z : Int) 0 (st.drop c)) ∧ (st.take c).length + 1 ≤ 1000000 ∧ (vs.take c ++ [.agg #[.int .i64 (z : Int), .int .i64 0, .slice ka kn kc]] = vs2) ∧ (st.take c ++ [.mk (z : Int) 0 (st.drop c)] = st2)) := ⟨(HD5.out.next hkb).cut c (by rw [HSN.out]; omega), HD5.out.node c (by rw [HSN.out]; omega) hko hkb (z : Int), by rw [List.length_take, HSN.out]; omega, HV2.out, HS2.out⟩
                have HLC : Hid ((0 : Int) ≤ (c : Int) ∧ (c : Int) ≤ (c : Int) ∧ c ≤ c ∧ c ≤ sn) := ⟨by omega, by omega, by omega, by omega⟩
                clear hrun hko hkb
                go_upto_region 13 with (at_builtin; refine wpList_append_run rfl _ _ 25 rfl _ _ rfl rfl HRUN.out ?_)
                clear g2 e1 v5 HRUN
                refine wp_region_free mixed (fun a0 d a W => ∃ (gb : Nat) (ua : Option Addr) (un : Nat) (uc : Nat) (x6 x73 x74 x75 x76 x77 x78 x79 x80 x81 : Value), a = ((((((((((a0.put (some 6) x6).put (some 73) x73).put (some 74) x74).put (some 75) x75).put (some 76) x76).put (some 77) x77).put (some 78) x78).put (some 79) x79).put (some 80) x80).put (some 81) x81) ∧ Hid (RBu w1 V eb c 4 (z : Int) da sn c ka kn kc vs2 st2 gb ua un uc d x6 x73 x74 x75 x76 x77 x78 x79 x80 x81 W)) (by kernel_rfl) ⟨0, none, 0, 0, (.slice da sn c), u73, u74, u75, u76, u77, u78, u79, u80, u81, by simp only [Act.put, List.setIfInBounds_toArray, List.set_cons_zero, List.set_cons_succ], ?_⟩ ?_ ?_
                · exact ⟨fun h => no_way h, fun h => no_way h, fun h => no_way h, fun h => no_way h, fun h => no_way h, fun h => no_way h, fun h => no_way h, fun h => no_way h, fun h => no_way h, fun h => no_way h, fun h => no_way h, fun h => no_way h, fun h => no_way h, fun h => no_way h, fun h => no_way h, fun h => no_way h, fun _ => rfl, fun _ => (Below.refl _ _).drew, fun h => no_way h, fun h => no_way h⟩
                · simp only [StepAll, and_true]
                  refine ⟨?_, ?_, ?_, ?_, ?_, ?_, ?_, ?_, ?_, ?_⟩
                  · intro d a W hI hd hdep
                    obtain ⟨gb, ua, un, uc, x6, x73, x74, x75, x76, x77, x78, x79, x80, x81, rfl, hF⟩ := hI
                    have HD9 : d 9 = false := no_later (fun h => hF.out.o2_0 (hF.out.o8_2 (hF.out.o9_8 h))) hd
                    obtain rfl := hF.out.s6 HD9
                    clear HD9
                    clear hdep hd
                    intro K hK
                    simp only [Act.put, List.setIfInBounds_toArray, List.set_cons_zero, List.set_cons_succ]
                    go_simp
                    refine hK.out _ _ ⟨gb, ua, un, uc, (.slice da sn c), (.slice da sn c), x74, x75, x76, x77, x78, x79, x80, x81, by simp only [Act.put, List.setIfInBounds_toArray, List.set_cons_zero, List.set_cons_succ], ?_⟩
                    exact ⟨fun _ => rfl, fun h => hF.out.f1 (by simpa using h), fun h => hF.out.f2 (by simpa using h), fun h => hF.out.f3 (by simpa using h), fun h => hF.out.f4 (by simpa using h), fun h => hF.out.f5 (by simpa using h), fun h => hF.out.f6 (by simpa using h), fun h => hF.out.f7 (by simpa using h), fun h => hF.out.f8 (by simpa using h), fun h => hF.out.f9 (by simpa using h), fun h => by have := hF.out.o9_8 (by simpa using h); simpa using this, fun h => by have := hF.out.o8_7 (by simpa using h); simpa using this, fun h => by have := hF.out.o8_2 (by simpa using h); simpa using this, fun _ => by simp, fun h => by have := hF.out.o7_6 (by simpa using h); simpa using this, fun h => by have := hF.out.o6_4 (by simpa using h); simpa using this, fun _ => rfl, fun h => hF.out.bw (by simpa using h), fun h h2 => hF.out.r7 (by simpa using h) (by simpa using h2), fun h => hF.out.r8 (by simpa using h)⟩
                  · intro d a W hI hd hdep
                    obtain ⟨gb, ua, un, uc, x6, x73, x74, x75, x76, x77, x78, x79, x80, x81, rfl, hF⟩ := hI
                    clear hdep hd
                    intro K hK
                    simp only [Act.put, List.setIfInBounds_toArray, List.set_cons_zero, List.set_cons_succ]
                    go_simp
                    refine hK.out _ _ ⟨gb, ua, un, uc, x6, x73, (.int .i64 (c : Int)), x75, x76, x77, x78, x79, x80, x81, by simp only [Act.put, List.setIfInBounds_toArray, List.set_cons_zero, List.set_cons_succ], ?_⟩
                    exact ⟨fun h => hF.out.f0 (by simpa using h), fun _ => rfl, fun h => hF.out.f2 (by simpa using h), fun h => hF.out.f3 (by simpa using h), fun h => hF.out.f4 (by simpa using h), fun h => hF.out.f5 (by simpa using h), fun h => hF.out.f6 (by simpa using h), fun h => hF.out.f7 (by simpa using h), fun h => hF.out.f8 (by simpa using h), fun h => hF.out.f9 (by simpa using h), fun h => by have := hF.out.o9_8 (by simpa using h); simpa using this, fun h => by have := hF.out.o8_7 (by simpa using h); simpa using this, fun h => by have := hF.out.o8_2 (by simpa using h); simpa using this, fun h => by have := hF.out.o2_0 (by simpa using h); simpa using this, fun h => by have := hF.out.o7_6 (by simpa using h); simpa using this, fun h => by have := hF.out.o6_4 (by simpa using h); simpa using this, fun h => hF.out.s6 (by simpa using h), fun h => hF.out.bw (by simpa using h), fun h h2 => hF.out.r7 (by simpa using h) (by simpa using h2), fun h => hF.out.r8 (by simpa using h)⟩
                  · intro d a W hI hd hdep
                    obtain ⟨gb, ua, un, uc, x6, x73, x74, x75, x76, x77, x78, x79, x80, x81, rfl, hF⟩ := hI
                    have hd0 : d 0 = true := dep_of hdep 0 (by kernel_rfl)
                    have hd1 : d 1 = true := dep_of hdep 1 (by kernel_rfl)
                    obtain rfl := hF.out.f0 hd0
                    obtain rfl := hF.out.f1 hd1
                    have e2_0 := hd0
                    have y1 := HLC.out.1
                    have y2 := HLC.out.2.1
                    have y3 := HLC.out.2.2.1
                    have y4 := HLC.out.2.2.2
                    clear hdep hd hd0 hd1
                    intro K hK
                    simp only [Act.put, List.setIfInBounds_toArray, List.set_cons_zero, List.set_cons_succ]
                    go_simp
                    refine hK.out _ _ ⟨gb, ua, un, uc, x6, (.slice da sn c), (.int .i64 (c : Int)), (.slice da c c), x76, x77, x78, x79, x80, x81, by simp only [Act.put, List.setIfInBounds_toArray, List.set_cons_zero, List.set_cons_succ], ?_⟩
                    exact ⟨fun h => hF.out.f0 (by simpa using h), fun h => hF.out.f1 (by simpa using h), fun _ => rfl, fun h => hF.out.f3 (by simpa using h), fun h => hF.out.f4 (by simpa using h), fun h => hF.out.f5 (by simpa using h), fun h => hF.out.f6 (by simpa using h), fun h => hF.out.f7 (by simpa using h), fun h => hF.out.f8 (by simpa using h), fun h => hF.out.f9 (by simpa using h), fun h => by have := hF.out.o9_8 (by simpa using h); simpa using this, fun h => by have := hF.out.o8_7 (by simpa using h); simpa using this, fun _ => by simp, fun _ => by simpa using e2_0, fun h => by have := hF.out.o7_6 (by simpa using h); simpa using this, fun h => by have := hF.out.o6_4 (by simpa using h); simpa using this, fun h => hF.out.s6 (by simpa using h), fun h => hF.out.bw (by simpa using h), fun h h2 => hF.out.r7 (by simpa using h) (by simpa using h2), fun h => hF.out.r8 (by simpa using h)⟩
                  · intro d a W hI hd hdep
                    obtain ⟨gb, ua, un, uc, x6, x73, x74, x75, x76, x77, x78, x79, x80, x81, rfl, hF⟩ := hI
                    clear hdep hd
                    intro K hK
                    simp only [Act.put, List.setIfInBounds_toArray, List.set_cons_zero, List.set_cons_succ]
                    go_simp
                    refine hK.out _ _ ⟨gb, ua, un, uc, x6, x73, x74, x75, (.pointer (some ⟨eb, 1, none⟩)), x77, x78, x79, x80, x81, by simp only [Act.put, List.setIfInBounds_toArray, List.set_cons_zero, List.set_cons_succ], ?_⟩
                    exact ⟨fun h => hF.out.f0 (by simpa using h), fun h => hF.out.f1 (by simpa using h), fun h => hF.out.f2 (by simpa using h), fun _ => rfl, fun h => hF.out.f4 (by simpa using h), fun h => hF.out.f5 (by simpa using h), fun h => hF.out.f6 (by simpa using h), fun h => hF.out.f7 (by simpa using h), fun h => hF.out.f8 (by simpa using h), fun h => hF.out.f9 (by simpa using h), fun h => by have := hF.out.o9_8 (by simpa using h); simpa using this, fun h => by have := hF.out.o8_7 (by simpa using h); simpa using this, fun h => by have := hF.out.o8_2 (by simpa using h); simpa using this, fun h => by have := hF.out.o2_0 (by simpa using h); simpa using this, fun h => by have := hF.out.o7_6 (by simpa using h); simpa using this, fun h => by have := hF.out.o6_4 (by simpa using h); simpa using this, fun h => hF.out.s6 (by simpa using h), fun h => hF.out.bw (by simpa using h), fun h h2 => hF.out.r7 (by simpa using h) (by simpa using h2), fun h => hF.out.r8 (by simpa using h)⟩
                  · intro d a W hI hd hdep
                    obtain ⟨gb, ua, un, uc, x6, x73, x74, x75, x76, x77, x78, x79, x80, x81, rfl, hF⟩ := hI
                    have hd3 : d 3 = true := dep_of hdep 3 (by kernel_rfl)
                    obtain rfl := hF.out.f3 hd3
                    have HD8 : d 8 = false := no_later (fun h => hF.out.o6_4 (hF.out.o7_6 (hF.out.o8_7 h))) hd
                    have y1 := tcell_blk (tbox_next HEB.out (hF.out.bw HD8)) 1
                    simp only [List.getElem?_toArray, List.getElem?_cons_zero, List.getElem?_cons_succ] at y1
                    clear HD8
                    clear hdep hd hd3
                    intro K hK
                    simp only [Act.put, List.setIfInBounds_toArray, List.set_cons_zero, List.set_cons_succ]
                    go_simp
                    refine hK.out _ _ ⟨gb, ua, un, uc, x6, x73, x74, x75, (.pointer (some ⟨eb, 1, none⟩)), (.int .i64 (z : Int)), x78, x79, x80, x81, by simp only [Act.put, List.setIfInBounds_toArray, List.set_cons_zero, List.set_cons_succ], ?_⟩
                    exact ⟨fun h => hF.out.f0 (by simpa using h), fun h => hF.out.f1 (by simpa using h), fun h => hF.out.f2 (by simpa using h), fun h => hF.out.f3 (by simpa using h), fun _ => rfl, fun h => hF.out.f5 (by simpa using h), fun h => hF.out.f6 (by simpa using h), fun h => hF.out.f7 (by simpa using h), fun h => hF.out.f8 (by simpa using h), fun h => hF.out.f9 (by simpa using h), fun h => by have := hF.out.o9_8 (by simpa using h); simpa using this, fun h => by have := hF.out.o8_7 (by simpa using h); simpa using this, fun h => by have := hF.out.o8_2 (by simpa using h); simpa using this, fun h => by have := hF.out.o2_0 (by simpa using h); simpa using this, fun h => by have := hF.out.o7_6 (by simpa using h); simpa using this, fun _ => by simp, fun h => hF.out.s6 (by simpa using h), fun h => hF.out.bw (by simpa using h), fun h h2 => hF.out.r7 (by simpa using h) (by simpa using h2), fun h => hF.out.r8 (by simpa using h)⟩
                  · intro d a W hI hd hdep
                    obtain ⟨gb, ua, un, uc, x6, x73, x74, x75, x76, x77, x78, x79, x80, x81, rfl, hF⟩ := hI
                    clear hdep hd
                    intro K hK
                    simp only [Act.put, List.setIfInBounds_toArray, List.set_cons_zero, List.set_cons_succ]
                    go_simp
                    refine hK.out _ _ ⟨gb, ua, un, uc, x6, x73, x74, x75, x76, x77, (.slice ka kn kc), x79, x80, x81, by simp only [Act.put, List.setIfInBounds_toArray, List.set_cons_zero, List.set_cons_succ], ?_⟩
                    exact ⟨fun h => hF.out.f0 (by simpa using h), fun h => hF.out.f1 (by simpa using h), fun h => hF.out.f2 (by simpa using h), fun h => hF.out.f3 (by simpa using h), fun h => hF.out.f4 (by simpa using h), fun _ => rfl, fun h => hF.out.f6 (by simpa using h), fun h => hF.out.f7 (by simpa using h), fun h => hF.out.f8 (by simpa using h), fun h => hF.out.f9 (by simpa using h), fun h => by have := hF.out.o9_8 (by simpa using h); simpa using this, fun h => by have := hF.out.o8_7 (by simpa using h); simpa using this, fun h => by have := hF.out.o8_2 (by simpa using h); simpa using this, fun h => by have := hF.out.o2_0 (by simpa using h); simpa using this, fun h => by have := hF.out.o7_6 (by simpa using h); simpa using this, fun h => by have := hF.out.o6_4 (by simpa using h); simpa using this, fun h => hF.out.s6 (by simpa using h), fun h => hF.out.bw (by simpa using h), fun h h2 => hF.out.r7 (by simpa using h) (by simpa using h2), fun h => hF.out.r8 (by simpa using h)⟩
                  · intro d a W hI hd hdep
                    obtain ⟨gb, ua, un, uc, x6, x73, x74, x75, x76, x77, x78, x79, x80, x81, rfl, hF⟩ := hI
                    have hd4 : d 4 = true := dep_of hdep 4 (by kernel_rfl)
                    have hd5 : d 5 = true := dep_of hdep 5 (by kernel_rfl)
                    obtain rfl := hF.out.f4 hd4
                    obtain rfl := hF.out.f5 hd5
                    have e6_4 := hd4
                    clear hdep hd hd4 hd5
                    intro K hK
                    simp only [Act.put, List.setIfInBounds_toArray, List.set_cons_zero, List.set_cons_succ]
                    go_simp
                    refine hK.out _ _ ⟨gb, ua, un, uc, x6, x73, x74, x75, x76, (.int .i64 (z : Int)), (.slice ka kn kc), (.agg #[.int .i64 (z : Int), .int .i64 0, .slice ka kn kc]), x80, x81, by simp only [Act.put, List.setIfInBounds_toArray, List.set_cons_zero, List.set_cons_succ], ?_⟩
                    exact ⟨fun h => hF.out.f0 (by simpa using h), fun h => hF.out.f1 (by simpa using h), fun h => hF.out.f2 (by simpa using h), fun h => hF.out.f3 (by simpa using h), fun h => hF.out.f4 (by simpa using h), fun h => hF.out.f5 (by simpa using h), fun _ => rfl, fun h => hF.out.f7 (by simpa using h), fun h => hF.out.f8 (by simpa using h), fun h => hF.out.f9 (by simpa using h), fun h => by have := hF.out.o9_8 (by simpa using h); simpa using this, fun h => by have := hF.out.o8_7 (by simpa using h); simpa using this, fun h => by have := hF.out.o8_2 (by simpa using h); simpa using this, fun h => by have := hF.out.o2_0 (by simpa using h); simpa using this, fun _ => by simp, fun _ => by simpa using e6_4, fun h => hF.out.s6 (by simpa using h), fun h => hF.out.bw (by simpa using h), fun h h2 => hF.out.r7 (by simpa using h) (by simpa using h2), fun h => hF.out.r8 (by simpa using h)⟩
                  · intro d a W hI hd hdep
                    obtain ⟨gb, ua, un, uc, x6, x73, x74, x75, x76, x77, x78, x79, x80, x81, rfl, hF⟩ := hI
                    have hd6 : d 6 = true := dep_of hdep 6 (by kernel_rfl)
                    obtain rfl := hF.out.f6 hd6
                    have e7_6 := hd6
                    have HD8 : Hid (d 8 = false) := no_later hF.out.o8_7 hd
                    clear hdep hd hd6
                    intro K hK
                    simp only [Act.put, List.setIfInBounds_toArray, List.set_cons_zero, List.set_cons_succ]
                    go_simp
                    refine hK.out _ _ ⟨W.heap.size, ua, un, uc, x6, x73, x74, x75, x76, x77, x78, (.agg #[.int .i64 (z : Int), .int .i64 0, .slice ka kn kc]), (.slice (some ⟨W.heap.size, 0, none⟩) 1 1), x81, by simp only [Act.put, List.setIfInBounds_toArray, List.set_cons_zero, List.set_cons_succ], ?_⟩
                    have hB := below_alloc W (Obj.cells #[.int .i64 (z : Int), .int .i64 0, .slice ka kn kc] 27)
                    exact ⟨fun h => hF.out.f0 (by simpa using h), fun h => hF.out.f1 (by simpa using h), fun h => hF.out.f2 (by simpa using h), fun h => hF.out.f3 (by simpa using h), fun h => hF.out.f4 (by simpa using h), fun h => hF.out.f5 (by simpa using h), fun h => hF.out.f6 (by simpa using h), fun _ => rfl, fun h => by have := HD8.out; simp [this] at h, fun h => by have := hF.out.o9_8 (by simpa using h); have h8 := HD8.out; simp [this] at h8, fun h => by have := hF.out.o9_8 (by simpa using h); simpa using this, fun _ => by simp, fun h => by have := hF.out.o8_2 (by simpa using h); simpa using this, fun h => by have := hF.out.o2_0 (by simpa using h); simpa using this, fun _ => by simpa using e7_6, fun h => by have := hF.out.o6_4 (by simpa using h); simpa using this, fun h => hF.out.s6 (by simpa using h), fun h => (hF.out.bw (by simpa using h)).trans (hB.mono (hF.out.bw (by simpa using h)).size), fun _ _ => heap_alloc_new _ _, fun h => by have := HD8.out; simp [this] at h⟩
                  · intro d a W hI hd hdep
                    obtain ⟨gb, ua, un, uc, x6, x73, x74, x75, x76, x77, x78, x79, x80, x81, rfl, hF⟩ := hI
                    have hd2 : d 2 = true := dep_of hdep 2 (by kernel_rfl)
                    have hd7 : d 7 = true := dep_of hdep 7 (by kernel_rfl)
                    obtain rfl := hF.out.f2 hd2
                    obtain rfl := hF.out.f7 hd7
                    have e8_7 := hd7
                    have e8_2 := hd2
                    have HD9 : Hid (d 9 = false) := no_later hF.out.o9_8 hd
                    have hbw := hF.out.bw hd
                    obtain ⟨ua2, un2, uc2, W2, hrun, hdv⟩ := (HDT.out.1.next hbw).app2 (hF.out.r7 hd7 hd) (HDT.out.2.1.bel hbw) HDT.out.2.2.1
                    rw [HDT.out.2.2.2.1, HDT.out.2.2.2.2] at hdv
                    clear hbw
                    clear hdep hd hd2 hd7
                    intro K hK
                    refine tstep_call_append (sv := .slice da c c) (xv := .slice (some ⟨gb, 0, none⟩) 1 1) (v := .slice ua2 un2 uc2) (W1 := W2) (by rfl) _ _ 25 (by rfl) (by simp only [Act.put, List.setIfInBounds_toArray, List.set_cons_zero, List.set_cons_succ]; rfl) (by simp only [Act.put, List.setIfInBounds_toArray, List.set_cons_zero, List.set_cons_succ]; rfl) (by exact hrun) ?_
                    simp only [Act.put, List.setIfInBounds_toArray, List.set_cons_zero, List.set_cons_succ]
                    refine hK.out _ _ ⟨gb, ua2, un2, uc2, x6, x73, x74, (.slice da c c), x76, x77, x78, x79, (.slice (some ⟨gb, 0, none⟩) 1 1), (.slice ua2 un2 uc2), by simp only [Act.put, List.setIfInBounds_toArray, List.set_cons_zero, List.set_cons_succ], ?_⟩
                    exact ⟨fun h => hF.out.f0 (by simpa using h), fun h => hF.out.f1 (by simpa using h), fun h => hF.out.f2 (by simpa using h), fun h => hF.out.f3 (by simpa using h), fun h => hF.out.f4 (by simpa using h), fun h => hF.out.f5 (by simpa using h), fun h => hF.out.f6 (by simpa using h), fun h => hF.out.f7 (by simpa using h), fun _ => rfl, fun h => by have := HD9.out; simp [this] at h, fun _ => by simp, fun _ => by simpa using e8_7, fun _ => by simpa using e8_2, fun h => by have := hF.out.o2_0 (by simpa using h); simpa using this, fun h => by have := hF.out.o7_6 (by simpa using h); simpa using this, fun h => by have := hF.out.o6_4 (by simpa using h); simpa using this, fun h => hF.out.s6 (by simpa using h), fun h => by simp at h, fun _ h => by simp at h, fun _ => hdv⟩
                  · intro d a W hI hd hdep
                    obtain ⟨gb, ua, un, uc, x6, x73, x74, x75, x76, x77, x78, x79, x80, x81, rfl, hF⟩ := hI
                    have hd8 : d 8 = true := dep_of hdep 8 (by kernel_rfl)
                    obtain rfl := hF.out.f8 hd8
                    have e9_8 := hd8
                    clear hdep hd hd8
                    intro K hK
                    simp only [Act.put, List.setIfInBounds_toArray, List.set_cons_zero, List.set_cons_succ]
                    go_simp
                    refine hK.out _ _ ⟨gb, ua, un, uc, (.slice ua un uc), x73, x74, x75, x76, x77, x78, x79, x80, (.slice ua un uc), by simp only [Act.put, List.setIfInBounds_toArray, List.set_cons_zero, List.set_cons_succ], ?_⟩
                    exact ⟨fun h => hF.out.f0 (by simpa using h), fun h => hF.out.f1 (by simpa using h), fun h => hF.out.f2 (by simpa using h), fun h => hF.out.f3 (by simpa using h), fun h => hF.out.f4 (by simpa using h), fun h => hF.out.f5 (by simpa using h), fun h => hF.out.f6 (by simpa using h), fun h => hF.out.f7 (by simpa using h), fun h => hF.out.f8 (by simpa using h), fun _ => rfl, fun _ => by simpa using e9_8, fun h => by have := hF.out.o8_7 (by simpa using h); simpa using this, fun h => by have := hF.out.o8_2 (by simpa using h); simpa using this, fun h => by have := hF.out.o2_0 (by simpa using h); simpa using this, fun h => by have := hF.out.o7_6 (by simpa using h); simpa using this, fun h => by have := hF.out.o6_4 (by simpa using h); simpa using this, fun h => by simp at h, fun h => hF.out.bw (by simpa using h), fun h h2 => hF.out.r7 (by simpa using h) (by simpa using h2), fun h => hF.out.r8 (by simpa using h)⟩
                · intro d a W hI hall
                  obtain ⟨gb, ua, un, uc, x6, x73, x74, x75, x76, x77, x78, x79, x80, x81, rfl, hF⟩ := hI
                  simp only [List.length_cons, List.length_nil] at hall
                  obtain rfl := hF.out.f0 (hall 0 (by omega))
                  obtain rfl := hF.out.f1 (hall 1 (by omega))
                  obtain rfl := hF.out.f2 (hall 2 (by omega))
                  obtain rfl := hF.out.f3 (hall 3 (by omega))
                  obtain rfl := hF.out.f4 (hall 4 (by omega))
                  obtain rfl := hF.out.f5 (hall 5 (by omega))
                  obtain rfl := hF.out.f6 (hall 6 (by omega))
                  obtain rfl := hF.out.f7 (hall 7 (by omega))
                  obtain rfl := hF.out.f8 (hall 8 (by omega))
                  obtain rfl := hF.out.f9 (hall 9 (by omega))
                  have HR5 : Hid (∃ vs st', brun ps (l.take (i + 1)) [] 0 = some (st', lv) ∧ st'.length ≤ i + 1 ∧ Dt w1 (.slice ua un uc) vs st' W) := ⟨vs2, st2, HTK2.out, HL2.out, hF.out.r8 (hall 8 (by omega))⟩
                  clear hF hall
                  simp only [Act.put, List.setIfInBounds_toArray, List.set_cons_zero, List.set_cons_succ]
                  go_wp2_with fail
                  go_roundw
                  case rel => exact ⟨i + 1, lv, _, _, _, by omega, rfl, rfl, by go_num, by omega, HR5⟩
                  case measure => simp [intOf]; omega
              · obtain ⟨ka, kn, kc, V, hrun, hko, hkb⟩ := HD5.out.last lo (sn - lo) (by rw [HSN.out]; omega) (by rw [HSN.out]; omega) (da.map (fun x => x.add (lo * 3))) (c - lo) (Or.inr ⟨hcn, rfl, rfl⟩)
                have HRUN : Hid _ := hrun
                have HBV5 : Hid (Below w5.heap.size w5 V) := hkb
                have HEB : Hid (V.heap[eb]? = some (.cells #[.int .i64 4, .int .i64 (z : Int)] 46)) := tbox_next HE5.out hkb
                obtain ⟨vs2, HV2⟩ : ∃ vs2, Hid (vs.take lo ++ [Value.agg #[.int .i64 (z : Int), .int .i64 0, .slice ka kn kc]] = vs2) := ⟨_, (rfl : vs.take lo ++ [Value.agg #[.int .i64 (z : Int), .int .i64 0, .slice ka kn kc]] = _)⟩
                have HDT : Hid (Dt w1 (.slice da lo c) (vs.take lo) (st.take lo) V ∧ Tx V (Pw w1 (.slice da lo c)) (.agg #[.int .i64 (z : Int), .int .i64 0, .slice ka kn kc]) (.mk (z : Int) 0 (st.drop lo)) ∧ (st.take lo).length + 1 ≤ 1000000 ∧ (vs.take lo ++ [.agg #[.int .i64 (z : Int), .int .i64 0, .slice ka kn kc]] = vs2) ∧ (st.take lo ++ [.mk (z : Int) 0 (st.drop lo)] = st2)) := ⟨(HD5.out.next hkb).cut lo (by rw [HSN.out]; omega), HD5.out.node lo (by rw [HSN.out]; omega) hko hkb (z : Int), by rw [List.length_take, HSN.out]; omega, HV2.out, HS2.out⟩
                have HLC : Hid ((0 : Int) ≤ (lo : Int) ∧ (lo : Int) ≤ (c : Int) ∧ lo ≤ c ∧ lo ≤ sn) := ⟨by omega, by omega, by omega, by omega⟩
                clear hrun hko hkb
                go_upto_region 13 with (at_builtin; refine wpList_append_run rfl _ _ 25 rfl _ _ rfl rfl HRUN.out ?_)
                clear g2 e1 v5 HRUN
                refine wp_region_free mixed (fun a0 d a W => ∃ (gb : Nat) (ua : Option Addr) (un : Nat) (uc : Nat) (x6 x73 x74 x75 x76 x77 x78 x79 x80 x81 : Value), a = ((((((((((a0.put (some 6) x6).put (some 73) x73).put (some 74) x74).put (some 75) x75).put (some 76) x76).put (some 77) x77).put (some 78) x78).put (some 79) x79).put (some 80) x80).put (some 81) x81) ∧ Hid (RBu w1 V eb lo 4 (z : Int) da sn c ka kn kc vs2 st2 gb ua un uc d x6 x73 x74 x75 x76 x77 x78 x79 x80 x81 W)) (by kernel_rfl) ⟨0, none, 0, 0, (.slice da sn c), u73, u74, u75, u76, u77, u78, u79, u80, u81, by simp only [Act.put, List.setIfInBounds_toArray, List.set_cons_zero, List.set_cons_succ], ?_⟩ ?_ ?_
                · exact ⟨fun h => no_way h, fun h => no_way h, fun h => no_way h, fun h => no_way h, fun h => no_way h, fun h => no_way h, fun h => no_way h, fun h => no_way h, fun h => no_way h, fun h => no_way h, fun h => no_way h, fun h => no_way h, fun h => no_way h, fun h => no_way h, fun h => no_way h, fun h => no_way h, fun _ => rfl, fun _ => (Below.refl _ _).drew, fun h => no_way h, fun h => no_way h⟩
                · simp only [StepAll, and_true]
                  refine ⟨?_, ?_, ?_, ?_, ?_, ?_, ?_, ?_, ?_, ?_⟩
                  · intro d a W hI hd hdep
                    obtain ⟨gb, ua, un, uc, x6, x73, x74, x75, x76, x77, x78, x79, x80, x81, rfl, hF⟩ := hI
                    have HD9 : d 9 = false := no_later (fun h => hF.out.o2_0 (hF.out.o8_2 (hF.out.o9_8 h))) hd
                    obtain rfl := hF.out.s6 HD9
                    clear HD9
                    clear hdep hd
                    intro K hK
                    simp only [Act.put, List.setIfInBounds_toArray, List.set_cons_zero, List.set_cons_succ]
                    go_simp
                    refine hK.out _ _ ⟨gb, ua, un, uc, (.slice da sn c), (.slice da sn c), x74, x75, x76, x77, x78, x79, x80, x81, by simp only [Act.put, List.setIfInBounds_toArray, List.set_cons_zero, List.set_cons_succ], ?_⟩
                    exact ⟨fun _ => rfl, fun h => hF.out.f1 (by simpa using h), fun h => hF.out.f2 (by simpa using h), fun h => hF.out.f3 (by simpa using h), fun h => hF.out.f4 (by simpa using h), fun h => hF.out.f5 (by simpa using h), fun h => hF.out.f6 (by simpa using h), fun h => hF.out.f7 (by simpa using h), fun h => hF.out.f8 (by simpa using h), fun h => hF.out.f9 (by simpa using h), fun h => by have := hF.out.o9_8 (by simpa using h); simpa using this, fun h => by have := hF.out.o8_7 (by simpa using h); simpa using this, fun h => by have := hF.out.o8_2 (by simpa using h); simpa using this, fun _ => by simp, fun h => by have := hF.out.o7_6 (by simpa using h); simpa using this, fun h => by have := hF.out.o6_4 (by simpa using h); simpa using this, fun _ => rfl, fun h => hF.out.bw (by simpa using h), fun h h2 => hF.out.r7 (by simpa using h) (by simpa using h2), fun h => hF.out.r8 (by simpa using h)⟩
                  · intro d a W hI hd hdep
                    obtain ⟨gb, ua, un, uc, x6, x73, x74, x75, x76, x77, x78, x79, x80, x81, rfl, hF⟩ := hI
                    clear hdep hd
                    intro K hK
                    simp only [Act.put, List.setIfInBounds_toArray, List.set_cons_zero, List.set_cons_succ]
                    go_simp
                    refine hK.out _ _ ⟨gb, ua, un, uc, x6, x73, (.int .i64 (lo : Int)), x75, x76, x77, x78, x79, x80, x81, by simp only [Act.put, List.setIfInBounds_toArray, List.set_cons_zero, List.set_cons_succ], ?_⟩
                    exact ⟨fun h => hF.out.f0 (by simpa using h), fun _ => rfl, fun h => hF.out.f2 (by simpa using h), fun h => hF.out.f3 (by simpa using h), fun h => hF.out.f4 (by simpa using h), fun h => hF.out.f5 (by simpa using h), fun h => hF.out.f6 (by simpa using h), fun h => hF.out.f7 (by simpa using h), fun h => hF.out.f8 (by simpa using h), fun h => hF.out.f9 (by simpa using h), fun h => by have := hF.out.o9_8 (by simpa using h); simpa using this, fun h => by have := hF.out.o8_7 (by simpa using h); simpa using this, fun h => by have := hF.out.o8_2 (by simpa using h); simpa using this, fun h => by have := hF.out.o2_0 (by simpa using h); simpa using this, fun h => by have := hF.out.o7_6 (by simpa using h); simpa using this, fun h => by have := hF.out.o6_4 (by simpa using h); simpa using this, fun h => hF.out.s6 (by simpa using h), fun h => hF.out.bw (by simpa using h), fun h h2 => hF.out.r7 (by simpa using h) (by simpa using h2), fun h => hF.out.r8 (by simpa using h)⟩
                  · intro d a W hI hd hdep
                    obtain ⟨gb, ua, un, uc, x6, x73, x74, x75, x76, x77, x78, x79, x80, x81, rfl, hF⟩ := hI
                    have hd0 : d 0 = true := dep_of hdep 0 (by kernel_rfl)
                    have hd1 : d 1 = true := dep_of hdep 1 (by kernel_rfl)
                    obtain rfl := hF.out.f0 hd0
                    obtain rfl := hF.out.f1 hd1
                    have e2_0 := hd0
                    have y1 := HLC.out.1
                    have y2 := HLC.out.2.1
                    have y3 := HLC.out.2.2.1
                    have y4 := HLC.out.2.2.2
                    clear hdep hd hd0 hd1
                    intro K hK
                    simp only [Act.put, List.setIfInBounds_toArray, List.set_cons_zero, List.set_cons_succ]
                    go_simp
                    refine hK.out _ _ ⟨gb, ua, un, uc, x6, (.slice da sn c), (.int .i64 (lo : Int)), (.slice da lo c), x76, x77, x78, x79, x80, x81, by simp only [Act.put, List.setIfInBounds_toArray, List.set_cons_zero, List.set_cons_succ], ?_⟩
                    exact ⟨fun h => hF.out.f0 (by simpa using h), fun h => hF.out.f1 (by simpa using h), fun _ => rfl, fun h => hF.out.f3 (by simpa using h), fun h => hF.out.f4 (by simpa using h), fun h => hF.out.f5 (by simpa using h), fun h => hF.out.f6 (by simpa using h), fun h => hF.out.f7 (by simpa using h), fun h => hF.out.f8 (by simpa using h), fun h => hF.out.f9 (by simpa using h), fun h => by have := hF.out.o9_8 (by simpa using h); simpa using this, fun h => by have := hF.out.o8_7 (by simpa using h); simpa using this, fun _ => by simp, fun _ => by simpa using e2_0, fun h => by have := hF.out.o7_6 (by simpa using h); simpa using this, fun h => by have := hF.out.o6_4 (by simpa using h); simpa using this, fun h => hF.out.s6 (by simpa using h), fun h => hF.out.bw (by simpa using h), fun h h2 => hF.out.r7 (by simpa using h) (by simpa using h2), fun h => hF.out.r8 (by simpa using h)⟩
                  · intro d a W hI hd hdep
                    obtain ⟨gb, ua, un, uc, x6, x73, x74, x75, x76, x77, x78, x79, x80, x81, rfl, hF⟩ := hI
                    clear hdep hd
                    intro K hK
                    simp only [Act.put, List.setIfInBounds_toArray, List.set_cons_zero, List.set_cons_succ]
                    go_simp
                    refine hK.out _ _ ⟨gb, ua, un, uc, x6, x73, x74, x75, (.pointer (some ⟨eb, 1, none⟩)), x77, x78, x79, x80, x81, by simp only [Act.put, List.setIfInBounds_toArray, List.set_cons_zero, List.set_cons_succ], ?_⟩
                    exact ⟨fun h => hF.out.f0 (by simpa using h), fun h => hF.out.f1 (by simpa using h), fun h => hF.out.f2 (by simpa using h), fun _ => rfl, fun h => hF.out.f4 (by simpa using h), fun h => hF.out.f5 (by simpa using h), fun h => hF.out.f6 (by simpa using h), fun h => hF.out.f7 (by simpa using h), fun h => hF.out.f8 (by simpa using h), fun h => hF.out.f9 (by simpa using h), fun h => by have := hF.out.o9_8 (by simpa using h); simpa using this, fun h => by have := hF.out.o8_7 (by simpa using h); simpa using this, fun h => by have := hF.out.o8_2 (by simpa using h); simpa using this, fun h => by have := hF.out.o2_0 (by simpa using h); simpa using this, fun h => by have := hF.out.o7_6 (by simpa using h); simpa using this, fun h => by have := hF.out.o6_4 (by simpa using h); simpa using this, fun h => hF.out.s6 (by simpa using h), fun h => hF.out.bw (by simpa using h), fun h h2 => hF.out.r7 (by simpa using h) (by simpa using h2), fun h => hF.out.r8 (by simpa using h)⟩
                  · intro d a W hI hd hdep
                    obtain ⟨gb, ua, un, uc, x6, x73, x74, x75, x76, x77, x78, x79, x80, x81, rfl, hF⟩ := hI
                    have hd3 : d 3 = true := dep_of hdep 3 (by kernel_rfl)
                    obtain rfl := hF.out.f3 hd3
                    have HD8 : d 8 = false := no_later (fun h => hF.out.o6_4 (hF.out.o7_6 (hF.out.o8_7 h))) hd
                    have y1 := tcell_blk (tbox_next HEB.out (hF.out.bw HD8)) 1
                    simp only [List.getElem?_toArray, List.getElem?_cons_zero, List.getElem?_cons_succ] at y1
                    clear HD8
                    clear hdep hd hd3
                    intro K hK
                    simp only [Act.put, List.setIfInBounds_toArray, List.set_cons_zero, List.set_cons_succ]
                    go_simp
                    refine hK.out _ _ ⟨gb, ua, un, uc, x6, x73, x74, x75, (.pointer (some ⟨eb, 1, none⟩)), (.int .i64 (z : Int)), x78, x79, x80, x81, by simp only [Act.put, List.setIfInBounds_toArray, List.set_cons_zero, List.set_cons_succ], ?_⟩
                    exact ⟨fun h => hF.out.f0 (by simpa using h), fun h => hF.out.f1 (by simpa using h), fun h => hF.out.f2 (by simpa using h), fun h => hF.out.f3 (by simpa using h), fun _ => rfl, fun h => hF.out.f5 (by simpa using h), fun h => hF.out.f6 (by simpa using h), fun h => hF.out.f7 (by simpa using h), fun h => hF.out.f8 (by simpa using h), fun h => hF.out.f9 (by simpa using h), fun h => by have := hF.out.o9_8 (by simpa using h); simpa using this, fun h => by have := hF.out.o8_7 (by simpa using h); simpa using this, fun h => by have := hF.out.o8_2 (by simpa using h); simpa using this, fun h => by have := hF.out.o2_0 (by simpa using h); simpa using this, fun h => by have := hF.out.o7_6 (by simpa using h); simpa using this, fun _ => by simp, fun h => hF.out.s6 (by simpa using h), fun h => hF.out.bw (by simpa using h), fun h h2 => hF.out.r7 (by simpa using h) (by simpa using h2), fun h => hF.out.r8 (by simpa using h)⟩
                  · intro d a W hI hd hdep
                    obtain ⟨gb, ua, un, uc, x6, x73, x74, x75, x76, x77, x78, x79, x80, x81, rfl, hF⟩ := hI
                    clear hdep hd
                    intro K hK
                    simp only [Act.put, List.setIfInBounds_toArray, List.set_cons_zero, List.set_cons_succ]
                    go_simp
                    refine hK.out _ _ ⟨gb, ua, un, uc, x6, x73, x74, x75, x76, x77, (.slice ka kn kc), x79, x80, x81, by simp only [Act.put, List.setIfInBounds_toArray, List.set_cons_zero, List.set_cons_succ], ?_⟩
                    exact ⟨fun h => hF.out.f0 (by simpa using h), fun h => hF.out.f1 (by simpa using h), fun h => hF.out.f2 (by simpa using h), fun h => hF.out.f3 (by simpa using h), fun h => hF.out.f4 (by simpa using h), fun _ => rfl, fun h => hF.out.f6 (by simpa using h), fun h => hF.out.f7 (by simpa using h), fun h => hF.out.f8 (by simpa using h), fun h => hF.out.f9 (by simpa using h), fun h => by have := hF.out.o9_8 (by simpa using h); simpa using this, fun h => by have := hF.out.o8_7 (by simpa using h); simpa using this, fun h => by have := hF.out.o8_2 (by simpa using h); simpa using this, fun h => by have := hF.out.o2_0 (by simpa using h); simpa using this, fun h => by have := hF.out.o7_6 (by simpa using h); simpa using this, fun h => by have := hF.out.o6_4 (by simpa using h); simpa using this, fun h => hF.out.s6 (by simpa using h), fun h => hF.out.bw (by simpa using h), fun h h2 => hF.out.r7 (by simpa using h) (by simpa using h2), fun h => hF.out.r8 (by simpa using h)⟩
                  · intro d a W hI hd hdep
                    obtain ⟨gb, ua, un, uc, x6, x73, x74, x75, x76, x77, x78, x79, x80, x81, rfl, hF⟩ := hI
                    have hd4 : d 4 = true := dep_of hdep 4 (by kernel_rfl)
                    have hd5 : d 5 = true := dep_of hdep 5 (by kernel_rfl)
                    obtain rfl := hF.out.f4 hd4
                    obtain rfl := hF.out.f5 hd5
                    have e6_4 := hd4
                    clear hdep hd hd4 hd5
                    intro K hK
                    simp only [Act.put, List.setIfInBounds_toArray, List.set_cons_zero, List.set_cons_succ]
                    go_simp
                    refine hK.out _ _ ⟨gb, ua, un, uc, x6, x73, x74, x75, x76, (.int .i64 (z : Int)), (.slice ka kn kc), (.agg #[.int .i64 (z : Int), .int .i64 0, .slice ka kn kc]), x80, x81, by simp only [Act.put, List.setIfInBounds_toArray, List.set_cons_zero, List.set_cons_succ], ?_⟩
                    exact ⟨fun h => hF.out.f0 (by simpa using h), fun h => hF.out.f1 (by simpa using h), fun h => hF.out.f2 (by simpa using h), fun h => hF.out.f3 (by simpa using h), fun h => hF.out.f4 (by simpa using h), fun h => hF.out.f5 (by simpa using h), fun _ => rfl, fun h => hF.out.f7 (by simpa using h), fun h => hF.out.f8 (by simpa using h), fun h => hF.out.f9 (by simpa using h), fun h => by have := hF.out.o9_8 (by simpa using h); simpa using this, fun h => by have := hF.out.o8_7 (by simpa using h); simpa using this, fun h => by have := hF.out.o8_2 (by simpa using h); simpa using this, fun h => by have := hF.out.o2_0 (by simpa using h); simpa using this, fun _ => by simp, fun _ => by simpa using e6_4, fun h => hF.out.s6 (by simpa using h), fun h => hF.out.bw (by simpa using h), fun h h2 => hF.out.r7 (by simpa using h) (by simpa using h2), fun h => hF.out.r8 (by simpa using h)⟩
                  · intro d a W hI hd hdep
                    obtain ⟨gb, ua, un, uc, x6, x73, x74, x75, x76, x77, x78, x79, x80, x81, rfl, hF⟩ := hI
                    have hd6 : d 6 = true := dep_of hdep 6 (by kernel_rfl)
                    obtain rfl := hF.out.f6 hd6
                    have e7_6 := hd6
                    have HD8 : Hid (d 8 = false) := no_later hF.out.o8_7 hd
                    clear hdep hd hd6
                    intro K hK
                    simp only [Act.put, List.setIfInBounds_toArray, List.set_cons_zero, List.set_cons_succ]
                    go_simp
                    refine hK.out _ _ ⟨W.heap.size, ua, un, uc, x6, x73, x74, x75, x76, x77, x78, (.agg #[.int .i64 (z : Int), .int .i64 0, .slice ka kn kc]), (.slice (some ⟨W.heap.size, 0, none⟩) 1 1), x81, by simp only [Act.put, List.setIfInBounds_toArray, List.set_cons_zero, List.set_cons_succ], ?_⟩
                    have hB := below_alloc W (Obj.cells #[.int .i64 (z : Int), .int .i64 0, .slice ka kn kc] 27)
                    exact ⟨fun h => hF.out.f0 (by simpa using h), fun h => hF.out.f1 (by simpa using h), fun h => hF.out.f2 (by simpa using h), fun h => hF.out.f3 (by simpa using h), fun h => hF.out.f4 (by simpa using h), fun h => hF.out.f5 (by simpa using h), fun h => hF.out.f6 (by simpa using h), fun _ => rfl, fun h => by have := HD8.out; simp [this] at h, fun h => by have := hF.out.o9_8 (by simpa using h); have h8 := HD8.out; simp [this] at h8, fun h => by have := hF.out.o9_8 (by simpa using h); simpa using this, fun _ => by simp, fun h => by have := hF.out.o8_2 (by simpa using h); simpa using this, fun h => by have := hF.out.o2_0 (by simpa using h); simpa using this, fun _ => by simpa using e7_6, fun h => by have := hF.out.o6_4 (by simpa using h); simpa using this, fun h => hF.out.s6 (by simpa using h), fun h => (hF.out.bw (by simpa using h)).trans (hB.mono (hF.out.bw (by simpa using h)).size), fun _ _ => heap_alloc_new _ _, fun h => by have := HD8.out; simp [this] at h⟩
                  · intro d a W hI hd hdep
                    obtain ⟨gb, ua, un, uc, x6, x73, x74, x75, x76, x77, x78, x79, x80, x81, rfl, hF⟩ := hI
                    have hd2 : d 2 = true := dep_of hdep 2 (by kernel_rfl)
                    have hd7 : d 7 = true := dep_of hdep 7 (by kernel_rfl)
                    obtain rfl := hF.out.f2 hd2
                    obtain rfl := hF.out.f7 hd7
                    have e8_7 := hd7
                    have e8_2 := hd2
                    have HD9 : Hid (d 9 = false) := no_later hF.out.o9_8 hd
                    have hbw := hF.out.bw hd
                    obtain ⟨ua2, un2, uc2, W2, hrun, hdv⟩ := (HDT.out.1.next hbw).app2 (hF.out.r7 hd7 hd) (HDT.out.2.1.bel hbw) HDT.out.2.2.1
                    rw [HDT.out.2.2.2.1, HDT.out.2.2.2.2] at hdv
                    clear hbw
                    clear hdep hd hd2 hd7
                    intro K hK
                    refine tstep_call_append (sv := .slice da lo c) (xv := .slice (some ⟨gb, 0, none⟩) 1 1) (v := .slice ua2 un2 uc2) (W1 := W2) (by rfl) _ _ 25 (by rfl) (by simp only [Act.put, List.setIfInBounds_toArray, List.set_cons_zero, List.set_cons_succ]; rfl) (by simp only [Act.put, List.setIfInBounds_toArray, List.set_cons_zero, List.set_cons_succ]; rfl) (by exact hrun) ?_
                    simp only [Act.put, List.setIfInBounds_toArray, List.set_cons_zero, List.set_cons_succ]
                    refine hK.out _ _ ⟨gb, ua2, un2, uc2, x6, x73, x74, (.slice da lo c), x76, x77, x78, x79, (.slice (some ⟨gb, 0, none⟩) 1 1), (.slice ua2 un2 uc2), by simp only [Act.put, List.setIfInBounds_toArray, List.set_cons_zero, List.set_cons_succ], ?_⟩
                    exact ⟨fun h => hF.out.f0 (by simpa using h), fun h => hF.out.f1 (by simpa using h), fun h => hF.out.f2 (by simpa using h), fun h => hF.out.f3 (by simpa using h), fun h => hF.out.f4 (by simpa using h), fun h => hF.out.f5 (by simpa using h), fun h => hF.out.f6 (by simpa using h), fun h => hF.out.f7 (by simpa using h), fun _ => rfl, fun h => by have := HD9.out; simp [this] at h, fun _ => by simp, fun _ => by simpa using e8_7, fun _ => by simpa using e8_2, fun h => by have := hF.out.o2_0 (by simpa using h); simpa using this, fun h => by have := hF.out.o7_6 (by simpa using h); simpa using this, fun h => by have := hF.out.o6_4 (by simpa using h); simpa using this, fun h => hF.out.s6 (by simpa using h), fun h => by simp at h, fun _ h => by simp at h, fun _ => hdv⟩
                  · intro d a W hI hd hdep
                    obtain ⟨gb, ua, un, uc, x6, x73, x74, x75, x76, x77, x78, x79, x80, x81, rfl, hF⟩ := hI
                    have hd8 : d 8 = true := dep_of hdep 8 (by kernel_rfl)
                    obtain rfl := hF.out.f8 hd8
                    have e9_8 := hd8
                    clear hdep hd hd8
                    intro K hK
                    simp only [Act.put, List.setIfInBounds_toArray, List.set_cons_zero, List.set_cons_succ]
                    go_simp
                    refine hK.out _ _ ⟨gb, ua, un, uc, (.slice ua un uc), x73, x74, x75, x76, x77, x78, x79, x80, (.slice ua un uc), by simp only [Act.put, List.setIfInBounds_toArray, List.set_cons_zero, List.set_cons_succ], ?_⟩
                    exact ⟨fun h => hF.out.f0 (by simpa using h), fun h => hF.out.f1 (by simpa using h), fun h => hF.out.f2 (by simpa using h), fun h => hF.out.f3 (by simpa using h), fun h => hF.out.f4 (by simpa using h), fun h => hF.out.f5 (by simpa using h), fun h => hF.out.f6 (by simpa using h), fun h => hF.out.f7 (by simpa using h), fun h => hF.out.f8 (by simpa using h), fun _ => rfl, fun _ => by simpa using e9_8, fun h => by have := hF.out.o8_7 (by simpa using h); simpa using this, fun h => by have := hF.out.o8_2 (by simpa using h); simpa using this, fun h => by have := hF.out.o2_0 (by simpa using h); simpa using this, fun h => by have := hF.out.o7_6 (by simpa using h); simpa using this, fun h => by have := hF.out.o6_4 (by simpa using h); simpa using this, fun h => by simp at h, fun h => hF.out.bw (by simpa using h), fun h h2 => hF.out.r7 (by simpa using h) (by simpa using h2), fun h => hF.out.r8 (by simpa using h)⟩
                · intro d a W hI hall
                  obtain ⟨gb, ua, un, uc, x6, x73, x74, x75, x76, x77, x78, x79, x80, x81, rfl, hF⟩ := hI
                  simp only [List.length_cons, List.length_nil] at hall
                  obtain rfl := hF.out.f0 (hall 0 (by omega))
                  obtain rfl := hF.out.f1 (hall 1 (by omega))
                  obtain rfl := hF.out.f2 (hall 2 (by omega))
                  obtain rfl := hF.out.f3 (hall 3 (by omega))
                  obtain rfl := hF.out.f4 (hall 4 (by omega))
                  obtain rfl := hF.out.f5 (hall 5 (by omega))
                  obtain rfl := hF.out.f6 (hall 6 (by omega))
                  obtain rfl := hF.out.f7 (hall 7 (by omega))
                  obtain rfl := hF.out.f8 (hall 8 (by omega))
                  obtain rfl := hF.out.f9 (hall 9 (by omega))
                  have HR5 : Hid (∃ vs st', brun ps (l.take (i + 1)) [] 0 = some (st', lv) ∧ st'.length ≤ i + 1 ∧ Dt w1 (.slice ua un uc) vs st' W) := ⟨vs2, st2, HTK2.out, HL2.out, hF.out.r8 (hall 8 (by omega))⟩
                  clear hF hall
                  simp only [Act.put, List.setIfInBounds_toArray, List.set_cons_zero, List.set_cons_succ]
                  go_wp2_with fail
                  go_roundw
                  case rel => exact ⟨i + 1, lv, _, _, _, by omega, rfl, rfl, by go_num, by omega, HR5⟩
                  case measure => simp [intOf]; omega
        · have hb4 : (x0 == 4) = false := by simp; exact h4
          obtain rfl : none = res := (HNO.out (by unfold bstep; simp [h2, h4])).symm
          clear h2 h4
          rw [HSN.out]
          go_upto_region 10 with fail
          have hne : Nonempty (Kp (Sb w2)) := ⟨⟨_, Sb.drew w2⟩⟩
          have y0 : ∀ X : Kp (Sb w2), X.W.cell? ⟨w.heap.size, 0, none⟩ = some (.int .i64 tt) := fun X => tcell_blk (tbox_next HG2.out.1 X.h) 0
          have y1 : ∀ X : Kp (Sb w2), X.W.cell? ⟨w.heap.size, 1, none⟩ = some (.int .i64 n) := fun X => tcell_blk (tbox_next HG2.out.1 X.h) 1
          have y2 : ∀ X : Kp (Sb w2), X.W.cell? ⟨w.heap.size, 2, none⟩ = some (.slice ga gm gc) := fun X => tcell_blk (tbox_next HG2.out.1 X.h) 2
          have y3 : ∀ X : Kp (Sb w2), X.W.cell? ⟨eb, 0, none⟩ = some (.int .i64 x0) := fun X => tcell_blk (tbox_next HG2.out.2 X.h) 0
          have y4 : ∀ X : Kp (Sb w2), X.W.cell? ⟨eb, 1, none⟩ = some (.int .i64 x1) := fun X => tcell_blk (tbox_next HG2.out.2 X.h) 1
          refine wp_region_kept mixed (by kernel_rfl) (Sb.drew w2) ?_
          repeat (go_big_quiet_step (fail))
          refine wpQuiet_nil ?_
          intro W5 hw5
          obtain ⟨p5, rfl⟩ := hw5
          have HB5 : Hid (Below w2.heap.size w2 p5.W) := p5.h
          generalize p5.W = w5 at HB5 ⊢
          clear y0 y1 y2 y3 y4 hne p5 e0 e1
          have HGR : w5.heap[w.heap.size + 1]? = some (.cells #[.int .i64 0, .int .i64 0, .slice none 0 0] 27) := ((HD2.out.next HB5.out).bel.block _ HBX.out.2.2).trans HBX.out.2.1
          have HV := set3_blk HGR (.int .i64 0) (.int .i64 0) (.slice none 0 0)
          have HBV : Hid (Below w.heap.size w (set3 w5 (w.heap.size + 1) (.int .i64 0) (.int .i64 0) (.slice none 0 0))) := set3_bel (HBW.out.trans ((HD2.out.next HB5.out).bel.mono HBW.out.size)) (by omega)
          have HSS : Hid (Below w1.heap.size w1 w5 ) := (HD2.out.next HB5.out).bel
          have r0 := tcell_blk HGR 0
          have r1 := tcell_blk HGR 1
          have r2 := tcell_blk HGR 2
          have f0 := tfrozen_blk HGR 0
          have f1 := tfrozen_blk HGR 1
          have f2 := tfrozen_blk HGR 2
          simp only [List.getElem?_toArray, List.getElem?_cons_zero, List.getElem?_cons_succ] at r0 r1 r2
          go_wp2_with fail
          rw [← set3_eq]
          generalize set3 w5 (w.heap.size + 1) (.int .i64 0) (.int .i64 0) (.slice none 0 0) = w9 at *
          have z0 := tcell_blk HV 0
          have z1 := tcell_blk HV 1
          have z2 := tcell_blk HV 2
          simp only [List.getElem?_toArray, List.getElem?_cons_zero, List.getElem?_cons_succ] at z0 z1 z2
          exact bodyPost_ret (v := .tuple #[.agg #[.int .i64 0, .int .i64 0, .slice none 0 0], .bool false]) (by simp [results, Try.results32, go_sem, z0, z1, z2]) rfl ⟨_, _, _, _, _, _, rfl, HBV.out, by rw [HRES.out]; exact ⟨rfl, rfl⟩⟩
    · have hk1 : ¬ (i : Int) < (N : Int) := by omega
      have HB0 : Hid (brun ps l [] 0 = some (st, lv)) := by
        have := HBR.out
        rw [List.take_of_length_le (by rw [HN.out]; omega)] at this
        exact this
      have hvw := HDT0.out.view (by have := HSL.out; omega)
      obtain ⟨rfl, hmc, hvx⟩ := hvw
      have HVX : Hid (Tx wr (fun _ => True) (.agg #[.int .i64 0, .int .i64 0, .slice da st.length c]) (.mk 0 0 st)) := hvx
      clear hvx
      have hne : Nonempty (Kp (Sb wr)) := ⟨⟨_, Sb.drew wr⟩⟩
      have HGW : Hid (wr.heap[w.heap.size]? = some (.cells #[.int .i64 tt, .int .i64 n, .slice ga gm gc] 24)) := (HDT0.out.bel.block _ (heap_lt3 HBX.out.1)).trans HBX.out.1
      have y0 : ∀ X : Kp (Sb wr), X.W.cell? ⟨w.heap.size, 0, none⟩ = some (.int .i64 tt) := fun X => tcell_blk (tbox_next HGW.out X.h) 0
      have y1 : ∀ X : Kp (Sb wr), X.W.cell? ⟨w.heap.size, 1, none⟩ = some (.int .i64 n) := fun X => tcell_blk (tbox_next HGW.out X.h) 1
      have y2 : ∀ X : Kp (Sb wr), X.W.cell? ⟨w.heap.size, 2, none⟩ = some (.slice ga gm gc) := fun X => tcell_blk (tbox_next HGW.out X.h) 2
      by_cases h1 : st.length = 1
      · obtain ⟨t, rfl⟩ : ∃ t, st = [t] := List.length_eq_one_iff.1 h1
        obtain ⟨g2, p', k', a', n', c', rfl, hg2, d0, d1, d2, hpe, dtx⟩ := HDT0.out.at 0 (by simp)
        simp only [Nat.zero_mul, Nat.zero_add, List.getElem_cons_zero] at d0 d1 d2 hpe dtx
        have HD0 : Hid (wr.cell? ⟨g2, 0, none⟩ = some (.int .i64 p') ∧ wr.cell? ⟨g2, 1, none⟩ = some (.int .i64 k') ∧ wr.cell? ⟨g2, 2, none⟩ = some (.slice a' n' c')) := ⟨d0, d1, d2⟩
        have HPE : Hid (p' = t.p) := hpe
        have HTX1 : Hid (Tx wr (fun b => w1.heap.size ≤ b) (.agg #[.int .i64 p', .int .i64 k', .slice a' n' c']) t) := dtx.mono fun b _ hp => hp.1
        clear d0 d1 d2 hpe dtx
        obtain ⟨rb, HRB⟩ : ∃ rb, Hid (isOf ps p' (2, 0) = rb) := ⟨_, (rfl : isOf ps p' (2, 0) = _)⟩
        have HBUI : Hid (built ps l = if rb = true then some t else none) := by
          show _ = _
          unfold built
          rw [HB0.out]
          show (if isOf ps t.p (2, 0) = true then some t else none) = _
          rw [← HPE.out, HRB.out]
        rw [HRES.out] at HBUI
        have HWR : Hid (Below w.heap.size w wr) := HBW.out.trans (HDT0.out.bel.mono HBW.out.size)
        have HCW : Hid (∀ X : Kp (Sb wr), Calls Try.prog 25 #[] X.W fun e w'' => e = .returned (.agg #[.int .i64 2, .int .i64 0]) ∧ ∃ Y : Kp (Sb wr), w'' = Y.W) := fun X => Kp.calls X Sb.next (whole_any X.W)
        have HCI : Hid (∀ X : Kp (Sb wr), Calls Try.prog 39 #[.agg #[.int .i64 tt, .int .i64 n, .slice ga gm gc], .int .i64 p', .agg #[.int .i64 2, .int .i64 0]] X.W fun e w'' => e = .returned (.bool rb) ∧ ∃ Y : Kp (Sb wr), w'' = Y.W) := fun X => by
          have := isOf_any tt n _ ps 2 0 p' X.W (HP.out.below (HWR.out.trans (X.h.mono HWR.out.size)))
          rw [HRB.out] at this
          exact Kp.calls X Sb.next this
        have y3 : ∀ X : Kp (Sb wr), X.W.cell? ⟨g2, 0, none⟩ = some (.int .i64 p') := fun X => (X.h.cell (p := ⟨g2, 0, none⟩) hg2).trans HD0.out.1
        have hb1 : ((1 : Int) != 1) = false := rfl
        rw [show [t].length = 1 from rfl] at *
        clear h1
        go_upto_region 15 with fail
        refine wp_region_kept mixed (by kernel_rfl) (Sb.drew wr) ?_
        repeat (go_big_quiet_step (first | (go_at_call 25; with_reducible exact HCW.out _) | (go_at_call 39; with_reducible exact HCI.out _)))
        refine wpQuiet_nil ?_
        intro W5 hw5
        obtain ⟨p5, rfl⟩ := hw5
        have HB5 : Hid (Below wr.heap.size wr p5.W) := p5.h
        generalize p5.W = w5 at HB5 ⊢
        clear y0 y1 y2 y3 hne p5
        have hbq := (HDT0.out.next HB5.out).bel
        have HBQ : Hid (Below w1.heap.size w1 w5) := hbq
        clear hbq
        cases rb with
        | false =>
          obtain rfl : res = none := by rw [HBUI.out]; rfl
          have HGR : w5.heap[w.heap.size + 1]? = some (.cells #[.int .i64 0, .int .i64 0, .slice none 0 0] 27) := (HBQ.out.block _ HBX.out.2.2).trans HBX.out.2.1
          have HV := set3_blk HGR (.int .i64 0) (.int .i64 0) (.slice none 0 0)
          have HBV : Hid (Below w.heap.size w (set3 w5 (w.heap.size + 1) (.int .i64 0) (.int .i64 0) (.slice none 0 0))) := set3_bel (HBW.out.trans (HBQ.out.mono HBW.out.size)) (by omega)
          have HSS : Hid (Below w1.heap.size w1 w5 ) := HBQ.out
          have r0 := tcell_blk HGR 0
          have r1 := tcell_blk HGR 1
          have r2 := tcell_blk HGR 2
          have f0 := tfrozen_blk HGR 0
          have f1 := tfrozen_blk HGR 1
          have f2 := tfrozen_blk HGR 2
          simp only [List.getElem?_toArray, List.getElem?_cons_zero, List.getElem?_cons_succ] at r0 r1 r2
          go_wp2_with fail
          rw [← set3_eq]
          generalize set3 w5 (w.heap.size + 1) (.int .i64 0) (.int .i64 0) (.slice none 0 0) = w9 at *
          have z0 := tcell_blk HV 0
          have z1 := tcell_blk HV 1
          have z2 := tcell_blk HV 2
          simp only [List.getElem?_toArray, List.getElem?_cons_zero, List.getElem?_cons_succ] at z0 z1 z2
          exact bodyPost_ret (v := .tuple #[.agg #[.int .i64 0, .int .i64 0, .slice none 0 0], .bool false]) (by simp [results, Try.results32, go_sem, z0, z1, z2]) rfl ⟨_, _, _, _, _, _, rfl, HBV.out, by rw [HRES.out]; exact ⟨rfl, rfl⟩⟩
        | true =>
          obtain rfl : res = some t := by rw [HBUI.out]; rfl
          have y3 : w5.cell? ⟨g2, 0, none⟩ = some (.int .i64 p') := (HB5.out.cell (p := ⟨g2, 0, none⟩) hg2).trans HD0.out.1
          have y4 : w5.cell? ⟨g2, 1, none⟩ = some (.int .i64 k') := (HB5.out.cell (p := ⟨g2, 1, none⟩) hg2).trans HD0.out.2.1
          have y5 : w5.cell? ⟨g2, 2, none⟩ = some (.slice a' n' c') := (HB5.out.cell (p := ⟨g2, 2, none⟩) hg2).trans HD0.out.2.2
          have HTX0 : Hid (Tx w5 (fun b => w1.heap.size ≤ b) (.agg #[.int .i64 p', .int .i64 k', .slice a' n' c']) t) := HTX1.out.bel HB5.out
          have HGR : w5.heap[w.heap.size + 1]? = some (.cells #[.int .i64 0, .int .i64 0, .slice none 0 0] 27) := (HBQ.out.block _ HBX.out.2.2).trans HBX.out.2.1
          have HV := set3_blk HGR (.int .i64 p') (.int .i64 k') (.slice a' n' c')
          have HBV : Hid (Below w.heap.size w (set3 w5 (w.heap.size + 1) (.int .i64 p') (.int .i64 k') (.slice a' n' c'))) := set3_bel (HBW.out.trans (HBQ.out.mono HBW.out.size)) (by omega)
          have HSS : Hid (Below w1.heap.size w1 w5 ) := HBQ.out
          have r0 := tcell_blk HGR 0
          have r1 := tcell_blk HGR 1
          have r2 := tcell_blk HGR 2
          have f0 := tfrozen_blk HGR 0
          have f1 := tfrozen_blk HGR 1
          have f2 := tfrozen_blk HGR 2
          simp only [List.getElem?_toArray, List.getElem?_cons_zero, List.getElem?_cons_succ] at r0 r1 r2
          go_wp2_with fail
          rw [← set3_eq]
          have HTX : Hid (Tx (set3 w5 (w.heap.size + 1) (.int .i64 p') (.int .i64 k') (.slice a' n' c')) (fun b => w.heap.size ≤ b) (.agg #[.int .i64 p', .int .i64 k', .slice a' n' c']) t) := by
            have hz : w.heap.size + 1 < w1.heap.size := HBX.out.2.2
            refine (HTX0.out.next (w' := set3 w5 (w.heap.size + 1) (.int .i64 p') (.int .i64 k') (.slice a' n' c')) (fun b hb hp => ?_) (by simp [set3, World.setCell])).mono fun b _ hp => by omega
            unfold set3
            rw [Below.heap_setCell _ _ _ _ (by simp; omega), Below.heap_setCell _ _ _ _ (by simp; omega), Below.heap_setCell _ _ _ _ (by simp; omega)]
          generalize set3 w5 (w.heap.size + 1) (.int .i64 p') (.int .i64 k') (.slice a' n' c') = w9 at *
          have z0 := tcell_blk HV 0
          have z1 := tcell_blk HV 1
          have z2 := tcell_blk HV 2
          simp only [List.getElem?_toArray, List.getElem?_cons_zero, List.getElem?_cons_succ] at z0 z1 z2
          exact bodyPost_ret (v := .tuple #[.agg #[.int .i64 p', .int .i64 k', .slice a' n' c'], .bool true]) (by simp [results, Try.results32, go_sem, z0, z1, z2]) rfl ⟨_, _, _, _, _, _, rfl, HBV.out, by rw [HRES.out]; exact ⟨rfl, HTX.out⟩⟩
      · have hb1 : ((st.length : Int) != 1) = true := by simp; omega
        obtain rfl : res = none := by
          rw [← HRES.out]
          unfold built
          rw [HB0.out]
          cases st with
          | nil => rfl
          | cons t ts =>
            cases ts with
            | nil => simp at h1
            | cons u us => rfl
        obtain ⟨sn, HSN⟩ : ∃ sn, Hid (st.length = sn) := ⟨_, (rfl : st.length = _)⟩
        rw [HSN.out] at hb1 ⊢
        clear h1
        go_upto_region 15 with fail
        refine wp_region_kept mixed (by kernel_rfl) (Sb.drew wr) ?_
        repeat (go_big_quiet_step (fail))
        refine wpQuiet_nil ?_
        intro W5 hw5
        obtain ⟨p5, rfl⟩ := hw5
        have HB5 : Hid (Below wr.heap.size wr p5.W) := p5.h
        generalize p5.W = w5 at HB5 ⊢
        clear y0 y1 y2 hne p5
        have HBQ : Hid (Below w1.heap.size w1 w5) := (HDT0.out.next HB5.out).bel
        have HGR : w5.heap[w.heap.size + 1]? = some (.cells #[.int .i64 0, .int .i64 0, .slice none 0 0] 27) := (HBQ.out.block _ HBX.out.2.2).trans HBX.out.2.1
        have HV := set3_blk HGR (.int .i64 0) (.int .i64 0) (.slice none 0 0)
        have HBV : Hid (Below w.heap.size w (set3 w5 (w.heap.size + 1) (.int .i64 0) (.int .i64 0) (.slice none 0 0))) := set3_bel (HBW.out.trans (HBQ.out.mono HBW.out.size)) (by omega)
        have HSS : Hid (Below w1.heap.size w1 w5 ) := HBQ.out
        have r0 := tcell_blk HGR 0
        have r1 := tcell_blk HGR 1
        have r2 := tcell_blk HGR 2
        have f0 := tfrozen_blk HGR 0
        have f1 := tfrozen_blk HGR 1
        have f2 := tfrozen_blk HGR 2
        simp only [List.getElem?_toArray, List.getElem?_cons_zero, List.getElem?_cons_succ] at r0 r1 r2
        go_wp2_with fail
        rw [← set3_eq]
        generalize set3 w5 (w.heap.size + 1) (.int .i64 0) (.int .i64 0) (.slice none 0 0) = w9 at *
        have z0 := tcell_blk HV 0
        have z1 := tcell_blk HV 1
        have z2 := tcell_blk HV 2
        simp only [List.getElem?_toArray, List.getElem?_cons_zero, List.getElem?_cons_succ] at z0 z1 z2
        exact bodyPost_ret (v := .tuple #[.agg #[.int .i64 0, .int .i64 0, .slice none 0 0], .bool false]) (by simp [results, Try.results32, go_sem, z0, z1, z2]) rfl ⟨_, _, _, _, _, _, rfl, HBV.out, by rw [HRES.out]; exact ⟨rfl, rfl⟩⟩
end Go.Proofs.Ytldfiofgknmcgab
