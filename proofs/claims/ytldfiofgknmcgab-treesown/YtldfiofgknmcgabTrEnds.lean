/-
  The contracts of trees.ends, checkEvents and checked.
-/
import Derived.Test.YtldfiofgknmcgabTrApp
import Derived.Test.YtldfiofgknmcgabTrBack
import Derived.Test.YtldfiofgknmcgabTrYield
namespace Go.Proofs.Ytldfiofgknmcgab
open Go.RowKit
open Cg

/-- Three cells written. -/
def set3 (W : World) (g : Nat) (x y z : Value) : World := ((W.setCell ⟨g, 0, none⟩ x).setCell ⟨g, 1, none⟩ y).setCell ⟨g, 2, none⟩ z
theorem set3_eq (W : World) (g : Nat) (x y z : Value) : set3 W g x y z = ((W.setCell ⟨g, 0, none⟩ x).setCell ⟨g, 1, none⟩ y).setCell ⟨g, 2, none⟩ z := rfl
theorem set3_blk {W : World} {g : Nat} {a b c : Value} (h : W.heap[g]? = some (.cells #[a, b, c] 27)) (x y z : Value) : (set3 W g x y z).heap[g]? = some (.cells #[x, y, z] 27) := by
  have h1 := tblock_store (i := 0) h x
  have h2 := tblock_store (i := 1) h1 y
  have h3 := tblock_store (i := 2) h2 z
  simpa [set3] using h3
theorem set3_bel {w W : World} {g : Nat} {x y z : Value} {B : Nat} (h : Below B w W) (hg : B ≤ g) : Below B w (set3 W g x y z) := ((h.setCell hg x).setCell hg y).setCell hg z
set_option maxHeartbeats 4000000 in
set_option maxRecDepth 20000 in
theorem ends_any (lv : Value) (l : List Ev) (w : World) (h : Evs w lv l) (hl : l.length ≤ 100000) :
    Calls Try.prog 33 #[lv] w fun e w' => ∃ ra rn rc, e = .returned (.slice ra rn rc) ∧ Dn w (.slice ra rn rc) (ends l) w' := by
  obtain ⟨la, lc, rfl, hlm, hlc⟩ := h
  obtain ⟨i1, hi1, hy0, hy1, hy2⟩ := info_parts info46
  have HLC : Hid (l = [] ∨ ∃ b o, la = some ⟨b, o, none⟩ ∧ b < w.heap.size ∧ ∀ i (hi : i < l.length), w.cell? ⟨b, o + i * 2, none⟩ = some (.int .i64 l[i].1) ∧ w.cell? ⟨b, o + i * 2 + 1, none⟩ = some (.int .i64 l[i].2)) := hlc
  obtain ⟨n, HN⟩ : ∃ n, Hid (l.length = n) := ⟨_, (rfl : l.length = _)⟩
  rw [HN.out] at hl hlm ⊢
  have HD0 : Hid (Dn w (.slice none 0 0) [] w) := Dn.nil w (Below.refl _ _)
  clear hlc
  go_enter Try.func33, Try.ntmps33
  go_wp2_with fail
  go_loopw [3, 8] (fun x y wr => ∃ (i : Nat) (a : Option Addr) (xn c : Nat), i ≤ n ∧ x = .slice a xn c ∧ y = .int .i64 (i : Int) ∧ Hid (Dn w (.slice a xn c) (ends (l.take i)) wr)) (fun _ y _ => n - (intOf y).toNat)
  case atStart => exact ⟨0, _, _, _, by omega, rfl, rfl, HD0⟩
  case round =>
    obtain ⟨i, sa, sn, sc, hi, rfl, rfl, HI⟩ := hrel
    clear HD0
    by_cases hlt : i < n
    · have hil : i < l.length := by rw [HN.out]; exact hlt
      obtain ⟨b1, o1, rfl, q1, q2⟩ := HLC.out.resolve_left (by intro e; subst e; simp at hil)
      have hk1 : (i : Int) < (n : Int) := by omega
      have hk0 : (0 : Int) ≤ (i : Int) := by omega
      have HT : Hid (ends (l.take (i + 1)) = ends (l.take i) ++ ends1 l[i]) := by
        show _ = _
        rw [List.take_succ_eq_append_getElem hil, ends_append]; simp [ends]
      have HLE : Hid ((ends (l.take i)).length ≤ 100000) := by
        have := ends_len (l.take i)
        rw [List.length_take] at this
        show _ ≤ _
        omega
      have c1 : wr.cell? ⟨b1, o1 + i * 2, none⟩ = some (.int .i64 l[i].1) := (HI.out.bel.cell (p := ⟨b1, o1 + i * 2, none⟩) q1).trans (q2 i hil).1
      have c2 : wr.cell? ⟨b1, o1 + i * 2 + 1, none⟩ = some (.int .i64 l[i].2) := (HI.out.bel.cell (p := ⟨b1, o1 + i * 2 + 1, none⟩) q1).trans (q2 i hil).2
      generalize l[i] = ev at c1 c2 HT
      obtain ⟨x0, x1⟩ := ev
      simp only at c1 c2
      generalize ends (l.take i) = L at HI HT HLE
      clear q2
      have HB1 : Hid (Below wr.heap.size wr (wr.alloc (Obj.cells #[.int .i64 x0, .int .i64 x1] 46))) := below_alloc _ _
      have HD1 : Hid (Dn w (.slice sa sn sc) L (wr.alloc (Obj.cells #[.int .i64 x0, .int .i64 x1] 46))) := HI.out.next HB1.out
      have HG1 : Hid ((wr.alloc (Obj.cells #[.int .i64 x0, .int .i64 x1] 46)).heap[wr.heap.size]? = some (.cells #[.int .i64 x0, .int .i64 x1] 46)) := heap_alloc_new _ _
      go_upto_region 5 with fail
      obtain ⟨eb, HEB⟩ : ∃ eb, Hid (wr.heap.size = eb) := ⟨_, (rfl : wr.heap.size = _)⟩
      rw [HEB.out] at HG1 ⊢
      generalize wr.alloc (Obj.cells #[.int .i64 x0, .int .i64 x1] 46) = w1 at HD1 HG1 ⊢
      have e0 := tcell_blk HG1.out 0
      have e1 := tcell_blk HG1.out 1
      simp only [List.getElem?_toArray, List.getElem?_cons_zero, List.getElem?_cons_succ] at e0 e1
      clear c1 c2 HI HB1 HEB
      have HSZ : Hid (w.heap.size ≤ w1.heap.size) := HD1.out.bel.size
      have hown := HD1.out.own
      obtain ⟨ya, yc, hye⟩ := own_len hown
      simp only [Value.slice.injEq] at hye
      obtain ⟨rfl, rfl, rfl⟩ := hye
      obtain ⟨len9, HL9⟩ : ∃ n9, Hid (L.length = n9) := ⟨_, (rfl : L.length = L.length)⟩
      have HLN : Hid (len9 + 1 ≤ 1000000) := by have := HLE.out; rw [HL9.out] at this; show _ ≤ _; omega
      rw [HL9.out] at hown ⊢
      by_cases h1 : x0 = 1
      · subst h1
        have HR : Hid (Dn w (.slice sa len9 sc) (ends (l.take (i + 1))) w1) := by
          have := HD1.out
          rw [HL9.out] at this
          show Dn _ _ _ _
          rw [HT.out]; simpa [ends1] using this
        go_wp2_with fail
        go_roundw
        case rel => exact ⟨i + 1, _, _, _, by omega, rfl, by go_num, HR⟩
        case measure => simp [intOf]; omega
      · have hb1 : (x0 == 1) = false := by simp; exact h1
        by_cases h3 : x0 = 3
        · subst h3
          go_wp2_with (at_builtin; refine wpList_append_lies _ rfl _ _ 41 rfl w.heap.size 46 i1 (.agg #[.int .i64 0, .int .i64 0]) 2 16 Try.underlying41 hi1 hy0 hy1 hy2 rfl (by decide) _ _ _ rfl (hown.alloc _) ⟨(w1).heap.size, 0, none⟩ 1 1 [.int .i64 4, .int .i64 x1] rfl rfl (World.news_of_block (t := 46) (fr := (0, 0)) (heap_alloc_new (w1) _)) (by simp [Value.oneCell']) (by omega) (by unfold maxLen; have := HLN.out; omega) (by have := HLN.out; omega) (by have := HSZ.out; simp; omega) _ rfl ?_)
          intro gr cr V hown' hgrow hor hltg
          have HR : Hid (Dn w (.slice (some ⟨gr, 0, none⟩) (len9 + 1) cr) (ends (l.take (i + 1))) V) := by
            have h5 := HD1.out
            rw [HL9.out] at h5
            show Dn _ _ _ _
            rw [HT.out]
            simpa [ends1] using (h5.grow (x := (4, x1)) hgrow (by rw [HL9.out]; exact hown')).1
          clear hown' hgrow hor hltg hown e0 e1
          go_wp2_with fail
          go_roundw
          case rel => exact ⟨i + 1, _, _, _, by omega, rfl, by go_num, HR⟩
          case measure => simp [intOf]; omega
        · have hb3 : (x0 == 3) = false := by simp; exact h3
          have HN13 : Hid (x0 ≠ 1 ∧ x0 ≠ 3) := ⟨h1, h3⟩
          clear h1 h3
          go_wp2_with (at_builtin; refine wpList_append_lies _ rfl _ _ 41 rfl w.heap.size 46 i1 (.agg #[.int .i64 0, .int .i64 0]) 2 16 Try.underlying41 hi1 hy0 hy1 hy2 rfl (by decide) _ _ _ rfl (hown.alloc _) ⟨(w1).heap.size, 0, none⟩ 1 1 [.int .i64 x0, .int .i64 x1] rfl rfl (World.news_of_block (t := 46) (fr := (0, 0)) (heap_alloc_new (w1) _)) (by simp [Value.oneCell']) (by omega) (by unfold maxLen; have := HLN.out; omega) (by have := HLN.out; omega) (by have := HSZ.out; simp; omega) _ rfl ?_)
          intro gr cr V hown' hgrow hor hltg
          have HR : Hid (Dn w (.slice (some ⟨gr, 0, none⟩) (len9 + 1) cr) (ends (l.take (i + 1))) V) := by
            have h5 := HD1.out
            rw [HL9.out] at h5
            show Dn _ _ _ _
            rw [HT.out]
            simpa [ends1, HN13.out.1, HN13.out.2] using (h5.grow (x := (x0, x1)) hgrow (by rw [HL9.out]; exact hown')).1
          clear hown' hgrow hor hltg hown e0 e1
          go_wp2_with fail
          go_roundw
          case rel => exact ⟨i + 1, _, _, _, by omega, rfl, by go_num, HR⟩
          case measure => simp [intOf]; omega
    · have hk1 : ¬ (i : Int) < (n : Int) := by omega
      have h4 := HI.out
      rw [List.take_of_length_le (by rw [HN.out]; omega)] at h4
      have HI2 : Hid _ := h4
      clear h4 HI
      go_wp2_with fail
      go_ret
      exact ⟨_, _, _, rfl, HI2.out⟩

/-- What checkEvents says. -/
def errE (t n : Int) (ps : List Pd) (l : List Ev) : Int := if chk t n ps = 0 then (if 2000 < l.length then 2 else 0) else chk t n ps
set_option maxHeartbeats 4000000 in
set_option maxRecDepth 20000 in
theorem checkEvents_any (tt n : Int) (pv : Value) (ps : List Pd) (lv : Value) (l : List Ev) (w : World) (hp : Pds w pv ps) (h : Evs w lv l) :
    Calls Try.prog 31 #[.agg #[.int .i64 tt, .int .i64 n, pv], lv] w fun e w' => e = .returned (.int .i64 (errE tt n ps l)) ∧ Below w.heap.size w w' := by
  have HP : Hid (Pds w pv ps) := hp
  obtain ⟨ga, gc, rfl, -, -⟩ := hp
  obtain ⟨la, lc, rfl, hlm, -⟩ := h
  obtain ⟨gm, HGM⟩ : ∃ gm, Hid (ps.length = gm) := ⟨_, (rfl : ps.length = ps.length)⟩
  rw [HGM.out] at HP ⊢
  obtain ⟨er, HER⟩ : ∃ er, Hid (errE tt n ps l = er) := ⟨_, (rfl : errE tt n ps l = _)⟩
  rw [HER.out]
  obtain ⟨ce, HCE⟩ : ∃ ce, Hid (chk tt n ps = ce) := ⟨_, (rfl : chk tt n ps = chk tt n ps)⟩
  obtain ⟨ln, HLN⟩ : ∃ ln, Hid (l.length = ln) := ⟨_, (rfl : l.length = _)⟩
  have HE : Hid ((if ce = 0 then (if 2000 < ln then 2 else 0) else ce) = er) := by show _ = _; rw [← HER.out]; unfold errE; rw [HCE.out, HLN.out]
  rw [HLN.out] at hlm ⊢
  have hb1 := below_alloc w (Obj.cells #[.int .i64 tt, .int .i64 n, .slice ga gm gc] 24)
  have hc := Check_any tt n _ ps _ (HP.out.below hb1)
  rw [HCE.out] at hc
  have HB1 : Hid _ := hb1
  clear hb1
  go_enter Try.func31, Try.ntmps31
  go_wp2_with fail
  refine hc.mono ?_
  rintro _ w2 ⟨rfl, hb2⟩
  have HB2 : Hid (Below w.heap.size w w2) := HB1.out.trans (hb2.mono HB1.out.size)
  clear hc hb2 HB1
  by_cases hz : ce = 0
  · subst hz
    by_cases h2 : 2000 < ln
    · have hb : decide ((2000 : Int) < (ln : Int)) = true := by simp; omega
      obtain rfl : 2 = er := by rw [← HE.out]; simp [h2]
      clear h2
      go_wp2_with fail
      go_ret
      exact ⟨by simp, HB2.out⟩
    · have hb : decide ((2000 : Int) < (ln : Int)) = false := by simp; omega
      obtain rfl : 0 = er := by rw [← HE.out]; simp [h2]
      clear h2
      go_wp2_with fail
      go_ret
      exact ⟨by simp, HB2.out⟩
  · have hb : (ce != 0) = true := by simp; exact hz
    obtain rfl : ce = er := by rw [← HE.out, if_neg hz]
    clear hz
    go_wp2_with fail
    go_ret
    exact ⟨by simp, HB2.out⟩

set_option maxHeartbeats 4000000 in
set_option maxRecDepth 20000 in
theorem checked_any (tt n : Int) (pv : Value) (ps : List Pd) (p k : Int) (ao : Option Addr) (tn cap : Nat) (t : T) (P : Nat → Prop) (w : World) (hp : Pds w pv ps) (hx : Tx w P (.agg #[.int .i64 p, .int .i64 k, .slice ao tn cap]) t) :
    Calls Try.prog 34 #[.agg #[.int .i64 tt, .int .i64 n, pv], .agg #[.int .i64 p, .int .i64 k, .slice ao tn cap]] w fun e w' => e = .returned (.tuple #[if errT tt n ps t = 0 then .agg #[.int .i64 p, .int .i64 k, .slice ao tn cap] else .agg #[.int .i64 0, .int .i64 0, .slice none 0 0], .int .i64 (errT tt n ps t)]) ∧ Below w.heap.size w w' := by
  have HP : Hid (Pds w pv ps) := hp
  have HX : Hid (Tx w P (.agg #[.int .i64 p, .int .i64 k, .slice ao tn cap]) t) := hx
  obtain ⟨ga, gc, rfl, -, -⟩ := hp
  clear hx
  obtain ⟨gm, HGM⟩ : ∃ gm, Hid (ps.length = gm) := ⟨_, (rfl : ps.length = ps.length)⟩
  rw [HGM.out] at HP ⊢
  obtain ⟨er, HER⟩ : ∃ er, Hid (errT tt n ps t = er) := ⟨_, (rfl : errT tt n ps t = _)⟩
  rw [HER.out]
  obtain ⟨rv, HRV⟩ : ∃ rv, Hid ((if er = 0 then Value.agg #[.int .i64 p, .int .i64 k, .slice ao tn cap] else .agg #[.int .i64 0, .int .i64 0, .slice none 0 0]) = rv) := ⟨_, (rfl : _ = _)⟩
  rw [HRV.out]
  have HB1 : Hid (Below w.heap.size w (((w.alloc (Obj.cells #[.int .i64 tt, .int .i64 n, .slice ga gm gc] 24)).alloc (Obj.cells #[.int .i64 p, .int .i64 k, .slice ao tn cap] 27)).alloc (Obj.cells #[.int .i64 0, .int .i64 0, .slice none 0 0] 27))) := by
    have b1 := below_alloc2 w (Obj.cells #[.int .i64 tt, .int .i64 n, .slice ga gm gc] 24) (Obj.cells #[.int .i64 p, .int .i64 k, .slice ao tn cap] 27)
    exact b1.trans ((below_alloc _ _).mono b1.size)
  have HG1 : Hid ((((w.alloc (Obj.cells #[.int .i64 tt, .int .i64 n, .slice ga gm gc] 24)).alloc (Obj.cells #[.int .i64 p, .int .i64 k, .slice ao tn cap] 27)).alloc (Obj.cells #[.int .i64 0, .int .i64 0, .slice none 0 0] 27)).heap[w.heap.size + 1]? = some (.cells #[.int .i64 p, .int .i64 k, .slice ao tn cap] 27) ∧ (((w.alloc (Obj.cells #[.int .i64 tt, .int .i64 n, .slice ga gm gc] 24)).alloc (Obj.cells #[.int .i64 p, .int .i64 k, .slice ao tn cap] 27)).alloc (Obj.cells #[.int .i64 0, .int .i64 0, .slice none 0 0] 27)).heap[w.heap.size + 1 + 1]? = some (.cells #[.int .i64 0, .int .i64 0, .slice none 0 0] 27)) := by
    have g1 := heap_alloc_new (w.alloc (Obj.cells #[.int .i64 tt, .int .i64 n, .slice ga gm gc] 24)) (Obj.cells #[.int .i64 p, .int .i64 k, .slice ao tn cap] 27)
    have g2 := heap_alloc_new ((w.alloc (Obj.cells #[.int .i64 tt, .int .i64 n, .slice ga gm gc] 24)).alloc (Obj.cells #[.int .i64 p, .int .i64 k, .slice ao tn cap] 27)) (Obj.cells #[.int .i64 0, .int .i64 0, .slice none 0 0] 27)
    rw [show (w.alloc (Obj.cells #[.int .i64 tt, .int .i64 n, .slice ga gm gc] 24)).heap.size = w.heap.size + 1 by simp] at g1
    rw [show ((w.alloc (Obj.cells #[.int .i64 tt, .int .i64 n, .slice ga gm gc] 24)).alloc (Obj.cells #[.int .i64 p, .int .i64 k, .slice ao tn cap] 27)).heap.size = w.heap.size + 1 + 1 by simp] at g2
    exact ⟨tbox_next g1 (below_alloc _ _), g2⟩
  have hc := TCheck_any tt n _ ps _ _ P _ (HP.out.below HB1.out) (HX.out.bel HB1.out)
  rw [HER.out] at hc
  go_enter Try.func34, Try.ntmps34
  go_wp2_with fail
  refine hc.mono ?_
  rintro _ w2 ⟨rfl, hb2⟩
  have HB2 : Hid (Below w.heap.size w w2) := HB1.out.trans (hb2.mono HB1.out.size)
  have HG2 : Hid (w2.heap[w.heap.size + 1]? = some (.cells #[.int .i64 p, .int .i64 k, .slice ao tn cap] 27) ∧ w2.heap[w.heap.size + 1 + 1]? = some (.cells #[.int .i64 0, .int .i64 0, .slice none 0 0] 27)) := ⟨tbox_next HG1.out.1 hb2, tbox_next HG1.out.2 hb2⟩
  clear hc hb2 HG1 HB1
  have e0 := tcell_blk HG2.out.1 0
  have e1 := tcell_blk HG2.out.1 1
  have e2 := tcell_blk HG2.out.1 2
  have r0 := tcell_blk HG2.out.2 0
  have r1 := tcell_blk HG2.out.2 1
  have r2 := tcell_blk HG2.out.2 2
  have f0 := tfrozen_blk HG2.out.2 0
  have f1 := tfrozen_blk HG2.out.2 1
  have f2 := tfrozen_blk HG2.out.2 2
  simp only [List.getElem?_toArray, List.getElem?_cons_zero, List.getElem?_cons_succ] at e0 e1 e2 r0 r1 r2
  by_cases hr : er = 0
  · subst hr
    obtain rfl : Value.agg #[.int .i64 p, .int .i64 k, .slice ao tn cap] = rv := by rw [← HRV.out, if_pos rfl]
    have HV := set3_blk HG2.out.2 (.int .i64 p) (.int .i64 k) (.slice ao tn cap)
    have HBV : Hid (Below w.heap.size w (set3 w2 (w.heap.size + 1 + 1) (.int .i64 p) (.int .i64 k) (.slice ao tn cap))) := set3_bel HB2.out (by omega)
    go_wp2_with fail
    rw [← set3_eq]
    generalize set3 w2 (w.heap.size + 1 + 1) (.int .i64 p) (.int .i64 k) (.slice ao tn cap) = w9 at HV HBV ⊢
    have z0 := tcell_blk HV 0
    have z1 := tcell_blk HV 1
    have z2 := tcell_blk HV 2
    simp only [List.getElem?_toArray, List.getElem?_cons_zero, List.getElem?_cons_succ] at z0 z1 z2
    exact bodyPost_ret (v := .tuple #[.agg #[.int .i64 p, .int .i64 k, .slice ao tn cap], .int .i64 0]) (by simp [results, Try.results34, go_sem, z0, z1, z2]) rfl ⟨rfl, HBV.out⟩
  · have hb : (er != 0) = true := by simp; exact hr
    obtain rfl : Value.agg #[.int .i64 0, .int .i64 0, .slice none 0 0] = rv := by rw [← HRV.out, if_neg hr]
    have HV := set3_blk HG2.out.2 (.int .i64 0) (.int .i64 0) (.slice none 0 0)
    have HBV : Hid (Below w.heap.size w (set3 w2 (w.heap.size + 1 + 1) (.int .i64 0) (.int .i64 0) (.slice none 0 0))) := set3_bel HB2.out (by omega)
    clear hr
    go_wp2_with fail
    rw [← set3_eq]
    generalize set3 w2 (w.heap.size + 1 + 1) (.int .i64 0) (.int .i64 0) (.slice none 0 0) = w9 at HV HBV ⊢
    have z0 := tcell_blk HV 0
    have z1 := tcell_blk HV 1
    have z2 := tcell_blk HV 2
    simp only [List.getElem?_toArray, List.getElem?_cons_zero, List.getElem?_cons_succ] at z0 z1 z2
    exact bodyPost_ret (v := .tuple #[.agg #[.int .i64 0, .int .i64 0, .slice none 0 0], .int .i64 er]) (by simp [results, Try.results34, go_sem, z0, z1, z2]) rfl ⟨rfl, HBV.out⟩
end Go.Proofs.Ytldfiofgknmcgab
