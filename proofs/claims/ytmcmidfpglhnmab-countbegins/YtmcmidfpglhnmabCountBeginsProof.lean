/-
  CountBegins returns true whatever grammar and word are handed in, and changes nothing that it was handed; no condition.
-/
import Derived.Test.YtmcmidfpglhnmabRows
import Derived.WalkKit
import Derived.ProofKit
import Derived.OpenShut
import Derived.ShutString
import Derived.SizedLaws
import Derived.ChangeOld
import Derived.Below
import Derived.Carry
import Derived.WalkLawsBesides
import Derived.WalkSpells
import Derived.Test.YtmcmidfpglhnmabOpens
import Derived.Deep.Cut
import Derived.Test.YtmcmidfpglhnmabBrCnt
import Derived.Test.YtmcmidfpglhnmabCtLaws
import Derived.Test.YtmcmidfpglhnmabChClone
import Derived.Test.YtmcmidfpglhnmabChApp
namespace Go.Proofs.Ytmcmidfpglhnmab.countBegins
open Go.ChangeShapes Go.WideShapes Go.ChangeAt Go.RowKit
open Go.ChangeMaps (open_string shut_string)
open Cg
set_option linter.unusedVariables false

theorem own : ownKnob Try.prog.godebug = none := by kernel_rfl
theorem laidOut : laidOutB Try.prog = true := by kernel_rfl
def IntsC (w : World) (v : Value) (l : List Int) : Prop := Ints w v l ∧ ∃ ao cap, v = .slice ao l.length cap ∧ l.length ≤ cap
section
variable {H : Type} {enc : TypeId × Value → H}
set_option maxRecDepth 20000 in
theorem open_intsw {W : World} {r : Reach} {b0 : Nat} {v : Value} {d : DataW H} {p : List MemPlace} (hv : Value.okWide Try.prog W r b0 25 v) (h : DataW.Trod enc Try.prog W 0 (fun _ => true) true 25 v d p) : ∃ l, IntsC W v l := by
  obtain ⟨l, hl⟩ := open_intsv hv h
  refine ⟨l, hl, ?_⟩
  obtain ⟨fuel, hf⟩ := h
  have hc : v.cells = #[v] := by
    obtain ⟨a, n, c, rfl⟩ := okWide_slice Try.underlying25 hv
    rfl
  rw [hc] at hf
  obtain ⟨ao, n, cap, e, hm, -⟩ := open_seq Try.underlying25 kcells3 (by omega) hf
  cases e
  obtain ⟨ao', cap', e2, -, -⟩ := hl
  simp only [Value.slice.injEq] at e2
  obtain ⟨rfl, rfl, rfl⟩ := e2
  exact ⟨_, _, rfl, hm.2⟩
end
open Classical in
theorem cBg_true {t n : Int} {ps : List Pd} {ws : List Int} (h : cBg t n ps ws = true) : ckW t n ps ws = 0 ∧ Bgn ps ws (2, 0) 0 := by
  unfold cBg at h; exact of_decide_eq_true h
open Classical in
theorem cBg_of {t n : Int} {ps : List Pd} {ws : List Int} (h : ckW t n ps ws = 0) (h2 : Bgn ps ws (2, 0) 0) : cBg t n ps ws = true := by
  unfold cBg; exact decide_eq_true ⟨h, h2⟩
theorem cBg_false {t n : Int} {ps : List Pd} {ws : List Int} (h : cBg t n ps ws = false) (h1 : ckW t n ps ws = 0) (h2 : Bgn ps ws (2, 0) 0) : False := by
  rw [cBg_of h1 h2] at h; cases h
theorem ckW_of {t n : Int} {ps : List Pd} {ws : List Int} (h : chk t n ps = 0) (hl : ws.length ≤ 20) (ha : ∀ x ∈ ws, 0 ≤ x ∧ x < t) : ckW t n ps ws = 0 := by
  unfold ckW
  rw [if_pos h, if_neg (by omega), if_pos]
  exact List.all_eq_true.2 fun x hx => by have := ha x hx; unfold okN; simp; exact this
theorem bgn_pre {ps : List Pd} {a b : List Int} (h : a <+: b) (hb : Bgn ps b (2, 0) 0) : Bgn ps a (2, 0) 0 := by
  obtain ⟨t, h1, h2⟩ := hb
  exact ⟨t, h1, by rw [List.drop_zero] at h2 ⊢; exact h.trans h2⟩
theorem cnt_bgn {ps : List Pd} {ws : List Int} (h : 1 ≤ cnt ps ws 0 0 ws.length) : Bgn ps ws (2, 0) 0 := by
  obtain ⟨t, ht⟩ := cc_some.1 h
  obtain ⟨h1, -, h3⟩ := sp_whole.1 ht
  exact ⟨t, h1, by rw [h3, List.drop_zero]; exact List.prefix_rfl⟩
mutual
theorem yl_ok {t : Int} {n : Nat} {ps : List Pd} (hok : ∀ q (hq : q < ps.length), OkL t n ps[q].2) : ∀ {x : T} {s : Sy}, sh ps x s = true → (s.1 = 1 → 0 ≤ s.2 ∧ s.2 < t) → ∀ y ∈ yl ps x s, 0 ≤ y ∧ y < t
  | .mk p k l, s, h, hs => by
    rw [yl]
    by_cases h4 : s.1 = 1
    · rw [if_pos h4]; intro y hy; simp at hy; subst hy; exact hs h4
    · rw [if_neg h4]
      obtain ⟨h1, -, -, h5⟩ := sh_node h h4
      obtain ⟨q, hq, -, e2⟩ := body_mem h1
      obtain ⟨j, hj, rfl⟩ := List.mem_iff_getElem.1 hq
      exact ylL_ok hok h5 (fun s hs e => by
        have := hok j hj s (by rw [e2]; exact hs)
        rcases this with h | h
        · exact h.2
        · omega)
theorem ylL_ok {t : Int} {n : Nat} {ps : List Pd} (hok : ∀ q (hq : q < ps.length), OkL t n ps[q].2) : ∀ {l : List T} {ss : List Sy}, shL ps l ss = true → (∀ s ∈ ss, s.1 = 1 → 0 ≤ s.2 ∧ s.2 < t) → ∀ y ∈ ylL ps l ss, 0 ≤ y ∧ y < t
  | [], ss, h, hs => by intro y hy; simp [ylL] at hy
  | x :: l, [], h, hs => by rw [shL] at h; simp at h
  | x :: l, s :: ss, h, hs => by
    rw [shL] at h; simp at h
    intro y hy
    rw [ylL] at hy
    simp only [List.headD_cons, List.tail_cons, List.mem_append] at hy
    rcases hy with hy | hy
    · exact yl_ok hok h.1 (hs s (by simp)) y hy
    · exact ylL_ok hok h.2 (fun s2 hs2 => hs s2 (by simp [hs2])) y hy
end
theorem bgn_end {t : Nat} {n : Int} {ps : List Pd} {ws : List Int} (h0 : chk t n ps = 0) (hb : Bgn ps ws (2, 0) 0) (hn : ∀ k : Nat, k < t → ¬ Bgn ps (ws ++ [(k : Int)]) (2, 0) 0) : 1 ≤ cnt ps ws 0 0 ws.length := by
  obtain ⟨u, h1, h2⟩ := hb
  rw [List.drop_zero] at h2
  obtain ⟨r, hr⟩ := h2
  cases r with
  | nil =>
    rw [List.append_nil] at hr
    have := sp_ren h1
    rw [← hr] at this
    exact cc_some.2 ⟨_, this⟩
  | cons x r =>
    exfalso
    have hn2 : n = (n.toNat : Int) := by have := okTN_le (chk_zero h0).1; omega
    have hrg : Rg (t : Int) n.toNat ps := rg_of (by rw [← hn2]; exact h0)
    have hx := yl_ok (fun q hq => hrg.ok q hq) h1 (fun h => absurd h (by decide)) x (by rw [← hr]; simp)
    refine hn x.toNat (by omega) ⟨u, h1, ?_⟩
    rw [List.drop_zero, show ((x.toNat : Nat) : Int) = x by omega]
    exact ⟨r, by rw [← hr]; simp⟩
structure RCb (wb : World) (g0 : Nat) (tt : Int) (n : Int) (ga : Option Addr) (gm gc : Nat) (la : Option Addr) (ln lc : Nat) (ws : List Int) (x : Int) (r : Bool) (ca : Option Addr) (cc : Nat) (gb : Nat) (aa : Option Addr) (ac : Nat) (d : Nat → Bool) (x14 x15 x85 x86 x87 x88 x89 x90 x91 x92 x93 x94 : Value) (W : World) : Prop where
  f0 : d 0 = true → x86 = (.agg #[.int .i64 tt, .int .i64 n, .slice ga gm gc])
  f1 : d 1 = true → x87 = (.slice la ln lc)
  f2 : d 2 = true → x88 = (.slice ca ln cc)
  f3 : d 3 = true → x89 = (.int .i64 x)
  f4 : d 4 = true → x90 = (.slice (some ⟨gb, 0, none⟩) 1 1)
  f5 : d 5 = true → x91 = (.slice aa (ln + 1) ac)
  f6 : d 6 = true → x92 = (.tuple #[.bool r, .int .i64 0])
  f7 : d 7 = true → x85 = (.tuple #[.bool r, .int .i64 0])
  f8 : d 8 = true → x93 = (.bool r)
  f9 : d 9 = true → x94 = (.int .i64 0)
  f10 : d 10 = true → x14 = (.bool r)
  f11 : d 11 = true → x15 = (.int .i64 0)
  o5_2 : d 5 = true → d 2 = true
  o5_4 : d 5 = true → d 4 = true
  o6_5 : d 6 = true → d 5 = true
  bl : Below wb.heap.size wb W
  cl : d 2 = true → d 5 = false → W.ownsRow wb.heap.size 3 1 (.slice ca ln cc) ln (ws.map (Value.int .i64))
  bs : d 4 = true → d 5 = false → W.heap[gb]? = some (Obj.cells #[.int .i64 x] 3)
  ap : d 5 = true → Ints W (.slice aa (ln + 1) ac) (ws ++ [x])

/-! ### The walk: the Go text returns true. -/
set_option maxHeartbeats 16000000 in
set_option maxRecDepth 20000 in
theorem walk (a0t : Int) (a0n : Int) (a0s : Value) (a0p : List Pd) (v1 : Value) (a1l : List Int) (w : World) (w0s : Pds w a0s a0p) (w1s : IntsC w v1 a1l) :
    Calls Try.prog 3 #[.agg #[.int .i64 a0t, .int .i64 a0n, a0s], v1] w fun e w' => e = .returned (.bool true) ∧ Below w.heap.size w w' := by
  have HP : Hid (Pds w a0s a0p) := w0s
  obtain ⟨ga, gc, rfl, -, -⟩ := w0s
  obtain ⟨gm, HGM⟩ : ∃ gm, Hid (a0p.length = gm) := ⟨_, (rfl : a0p.length = _)⟩
  rw [HGM.out] at HP ⊢
  revert HP HGM
  generalize a0t = t
  generalize a0n = n
  generalize a0p = ps
  intro HP HGM
  have HI : Hid (Ints w v1 a1l) := w1s.1
  obtain ⟨-, la, lc, rfl, hlc⟩ := w1s
  obtain ⟨ln, HLN⟩ : ∃ ln, Hid (a1l.length = ln) := ⟨_, (rfl : a1l.length = _)⟩
  rw [HLN.out] at HI hlc ⊢
  revert HI HLN
  generalize a1l = ws
  intro HI HLN
  have hH1 : Hid (Below w.heap.size w (w.alloc (Obj.cells #[.int .i64 t, .int .i64 n, .slice ga gm gc] 24)) ∧ (w.alloc (Obj.cells #[.int .i64 t, .int .i64 n, .slice ga gm gc] 24)).heap[w.heap.size]? = some (Obj.cells #[.int .i64 t, .int .i64 n, .slice ga gm gc] 24)) := ⟨below_alloc _ _, heap_alloc_new _ _⟩
  obtain ⟨cw, HCW⟩ : ∃ cw, Hid (ckW t n ps ws = cw) := ⟨_, (rfl : ckW t n ps ws = _)⟩
  go_enter Try.func3, Try.ntmps3
  go_upto_region 1 with fail
  generalize w.alloc (Obj.cells #[.int .i64 t, .int .i64 n, .slice ga gm gc] 24) = w1 at hH1 ⊢
  have HH1 : Hid (Below w.heap.size w w1 ∧ w1.heap[w.heap.size]? = some (Obj.cells #[.int .i64 t, .int .i64 n, .slice ga gm gc] 24)) := hH1.out
  clear hH1
  go_wp2_with fail
  refine (brackets_any w1).mono ?_
  rintro _ w2 ⟨gb, rfl, hpb, hb⟩
  have HH2 : Hid (Below w.heap.size w w2 ∧ w2.heap[w.heap.size]? = some (Obj.cells #[.int .i64 t, .int .i64 n, .slice ga gm gc] 24)) := ⟨HH1.out.1.trans (hb.mono HH1.out.1.size), tbox_next HH1.out.2 hb⟩
  have HPB : Hid (Pds w2 (.slice (some ⟨gb, 0, none⟩) 2 2) brs) := hpb
  clear hpb hb HH1
  go_wp2_with fail
  have hb := below_alloc w2 (Obj.cells #[.int .i64 0, .int .i64 0] 3)
  have hc := CBegins_any 2 1 _ _ brs [0, 0] (w2.alloc (Obj.cells #[.int .i64 0, .int .i64 0] 3)) (HPB.out.below hb) (ints_blk (l := [0, 0]) (heap_alloc_new _ _) (by decide))
  rw [cBg_00, ckW_brs (by decide) (by decide)] at hc
  refine hc.mono ?_
  rintro _ w3 ⟨rfl, hb3⟩
  replace hb := hb.trans (hb3.mono hb.size)
  have HH3 : Hid (Below w.heap.size w w3 ∧ w3.heap[w.heap.size]? = some (Obj.cells #[.int .i64 t, .int .i64 n, .slice ga gm gc] 24)) := ⟨HH2.out.1.trans (hb.mono HH2.out.1.size), tbox_next HH2.out.2 hb⟩
  clear hc hb hb3 HH2 HPB
  have k0 := tcell_blk HH3.out.2 0
  have k1 := tcell_blk HH3.out.2 1
  have k2 := tcell_blk HH3.out.2 2
  simp only [List.getElem?_toArray, List.getElem?_cons_zero, List.getElem?_cons_succ] at k0 k1 k2
  have hc := CTrees_any t n _ _ ps ws w3 (HP.out.below HH3.out.1) (HI.out.below HH3.out.1)
  obtain ⟨x, HX⟩ : ∃ x, Hid (cTr t n ps ws = x) := ⟨_, (rfl : cTr t n ps ws = _)⟩
  obtain ⟨bg, HB⟩ : ∃ bg, Hid (cBg t n ps ws = bg) := ⟨_, (rfl : cBg t n ps ws = _)⟩
  rw [HX.out, HCW.out] at hc
  go_wp2_with fail
  refine hc.mono ?_
  rintro _ w4 ⟨rfl, hb⟩
  have HH4 : Hid (Below w.heap.size w w4 ∧ w4.heap[w.heap.size]? = some (Obj.cells #[.int .i64 t, .int .i64 n, .slice ga gm gc] 24)) := ⟨HH3.out.1.trans (hb.mono HH3.out.1.size), tbox_next HH3.out.2 hb⟩
  clear hc hb HH3 k0 k1 k2
  have k0 := tcell_blk HH4.out.2 0
  have k1 := tcell_blk HH4.out.2 1
  have k2 := tcell_blk HH4.out.2 2
  simp only [List.getElem?_toArray, List.getElem?_cons_zero, List.getElem?_cons_succ] at k0 k1 k2
  have hc := CBegins_any t n _ _ ps ws w4 (HP.out.below HH4.out.1) (HI.out.below HH4.out.1)
  rw [HB.out, HCW.out] at hc
  go_wp2_with fail
  refine hc.mono ?_
  rintro _ w5 ⟨rfl, hb⟩
  have HH5 : Hid (Below w.heap.size w w5 ∧ w5.heap[w.heap.size]? = some (Obj.cells #[.int .i64 t, .int .i64 n, .slice ga gm gc] 24)) := ⟨HH4.out.1.trans (hb.mono HH4.out.1.size), tbox_next HH4.out.2 hb⟩
  clear hc hb HH4 k0 k1 k2
  by_cases hz : cw = 0
  · subst hz
    obtain ⟨tt, rfl⟩ : ∃ tt : Nat, t = (tt : Int) := ⟨t.toNat, by have := okTN_le (chk_zero (ckW_zero HCW.out).1).1; omega⟩
    cases bg with
    | true =>
      rcases Nat.eq_zero_or_pos x with hx0 | hx0
      · have hxx : ¬ ((0 : Int) < (x : Int)) := by omega
        have HBT : Hid (cBg tt n ps ws = true) := HB.out
        by_cases hl0 : ln = 0
        · have hl1 : ¬ ((0 : Int) < (ln : Int)) := by omega
          have hb20 : ((ln : Int) == 20) = false := by simp; omega
          have hll : ln < 20 := by omega
          have e1 : decide (0 < ln) = false := by simp; omega
          have e2 : decide ((0 : Int) < (ln : Int)) = false := by simp; omega
          have e3 : decide (0 < x) = false := by simp; omega
          have e4 : decide ((0 : Int) < (x : Int)) = false := by simp; omega
          clear hl0 hx0
          have k0 := tcell_blk HH5.out.2 0
          have k1 := tcell_blk HH5.out.2 1
          have k2 := tcell_blk HH5.out.2 2
          simp only [List.getElem?_toArray, List.getElem?_cons_zero, List.getElem?_cons_succ] at k0 k1 k2
          have HLB : Hid (ln ≤ 20) := by show _ ≤ _; omega
          go_wp2_with fail
          clear k0 k1 k2
          try simp only [e1, e2, e3, e4]
          clear e1 e2 e3 e4
          go_loopw [82] (fun i wr => ∃ k : Nat, k ≤ tt ∧ i = .int .i64 (k : Int) ∧ Hid (Below w.heap.size w wr ∧ wr.heap[w.heap.size]? = some (Obj.cells #[.int .i64 tt, .int .i64 n, .slice ga gm gc] 24)) ∧ Hid (∀ y : Nat, y < k → cBg tt n ps (ws ++ [(y : Int)]) = false)) (fun i _ => tt - (intOf i).toNat)
          case atStart => exact ⟨0, by omega, rfl, HH5, fun y hy => by omega⟩
          case round =>
            obtain ⟨k, hk, rfl, HHb, HNB⟩ := hrel
            by_cases hlt : k < tt
            · have HR0 : Hid (ckW tt n ps (ws ++ [(k : Int)]) = 0) := ckW_of (ckW_zero HCW.out).1 (by have := HLN.out; rw [List.length_append]; show _ + 1 ≤ 20; omega) (fun y hy => by
                rw [List.mem_append] at hy
                rcases hy with hy | hy
                · exact (ckW_zero HCW.out).2.2 y hy
                · simp at hy; omega)
              obtain ⟨r, HR⟩ : ∃ r, Hid (cBg tt n ps (ws ++ [(k : Int)]) = r) := ⟨_, (rfl : cBg tt n ps (ws ++ [(k : Int)]) = _)⟩
              have HBG : Hid (∀ W aa ac, Below wr.heap.size wr W → Ints W (.slice aa (ln + 1) ac) (ws ++ [(k : Int)]) → Calls Try.prog 5 #[.agg #[.int .i64 tt, .int .i64 n, .slice ga gm gc], .slice aa (ln + 1) ac] W fun e w' => e = .returned (.tuple #[.bool r, .int .i64 0]) ∧ Below W.heap.size W w') := fun W aa ac hB hi => by
                have := CBegins_any tt n _ _ ps (ws ++ [(k : Int)]) W (HP.out.below (HHb.out.1.trans (hB.mono HHb.out.1.size))) hi
                rw [HR.out, HR0.out] at this; exact this
              have HIB : Hid (Ints wr (.slice la ln lc) ws) := HI.out.below HHb.out.1
              have c0 := tcell_blk HHb.out.2 0
              have c1 := tcell_blk HHb.out.2 1
              have c2 := tcell_blk HHb.out.2 2
              simp only [List.getElem?_toArray, List.getElem?_cons_zero, List.getElem?_cons_succ] at c0 c1 c2
              have hgl : w.heap.size < wr.heap.size := heap_lt3 HHb.out.2
              have hk1 : (k : Int) < (tt : Int) := by omega
              have ht30 : tt ≤ 30 := by have := okTN_le (chk_zero (ckW_zero HCW.out).1).1; omega
              go_upto_region 19 with fail
              obtain ⟨wb, rfl⟩ : ∃ wb, wb = wr := ⟨_, rfl⟩
              try clear hl1
              try clear hxx
              try clear hb20
              try clear hl0
              refine wp_region_free mixed (fun a0 d a W => ∃ (ca : Option Addr) (cc : Nat) (gb : Nat) (aa : Option Addr) (ac : Nat) (x14 x15 x85 x86 x87 x88 x89 x90 x91 x92 x93 x94 : Value), a = ((((((((((((a0.put (some 14) x14).put (some 15) x15).put (some 85) x85).put (some 86) x86).put (some 87) x87).put (some 88) x88).put (some 89) x89).put (some 90) x90).put (some 91) x91).put (some 92) x92).put (some 93) x93).put (some 94) x94) ∧ Hid (RCb wb w.heap.size tt n ga gm gc la ln lc ws (k : Int) r ca cc gb aa ac d x14 x15 x85 x86 x87 x88 x89 x90 x91 x92 x93 x94 W)) (by kernel_rfl) ⟨none, 0, 0, none, 0, u14, u15, u85, u86, u87, u88, u89, u90, u91, u92, u93, u94, by simp only [Act.put, List.setIfInBounds_toArray, List.set_cons_zero, List.set_cons_succ], ?_⟩ ?_ ?_
              · exact ⟨fun h => no_way h, fun h => no_way h, fun h => no_way h, fun h => no_way h, fun h => no_way h, fun h => no_way h, fun h => no_way h, fun h => no_way h, fun h => no_way h, fun h => no_way h, fun h => no_way h, fun h => no_way h, fun h => no_way h, fun h => no_way h, fun h => no_way h, ⟨rfl, rfl, rfl, Nat.le_refl _, fun _ _ => rfl⟩, fun h => no_way h, fun h => no_way h, fun h => no_way h⟩
              · simp only [StepAll, and_true]
                refine ⟨?_, ?_, ?_, ?_, ?_, ?_, ?_, ?_, ?_, ?_, ?_, ?_⟩
                · intro d a W hI hd hdep
                  obtain ⟨ca, cc, gb, aa, ac, x14, x15, x85, x86, x87, x88, x89, x90, x91, x92, x93, x94, rfl, hF⟩ := hI
                  have hbl := hF.out.bl
                  have y0 := (hbl.cell (p := ⟨w.heap.size, 0, none⟩) hgl).trans c0
                  have y1 := (hbl.cell (p := ⟨w.heap.size, 1, none⟩) hgl).trans c1
                  have y2 := (hbl.cell (p := ⟨w.heap.size, 2, none⟩) hgl).trans c2
                  clear hdep hd
                  intro K hK
                  simp only [Act.put, List.setIfInBounds_toArray, List.set_cons_zero, List.set_cons_succ]
                  go_simp
                  refine hK.out _ _ ⟨ca, cc, gb, aa, ac, x14, x15, x85, (.agg #[.int .i64 tt, .int .i64 n, .slice ga gm gc]), x87, x88, x89, x90, x91, x92, x93, x94, by simp only [Act.put, List.setIfInBounds_toArray, List.set_cons_zero, List.set_cons_succ], ?_⟩
                  exact ⟨fun _ => rfl, fun h => hF.out.f1 (by simpa using h), fun h => hF.out.f2 (by simpa using h), fun h => hF.out.f3 (by simpa using h), fun h => hF.out.f4 (by simpa using h), fun h => hF.out.f5 (by simpa using h), fun h => hF.out.f6 (by simpa using h), fun h => hF.out.f7 (by simpa using h), fun h => hF.out.f8 (by simpa using h), fun h => hF.out.f9 (by simpa using h), fun h => hF.out.f10 (by simpa using h), fun h => hF.out.f11 (by simpa using h), fun h => by have := hF.out.o5_2 (by simpa using h); simpa using this, fun h => by have := hF.out.o5_4 (by simpa using h); simpa using this, fun h => by have := hF.out.o6_5 (by simpa using h); simpa using this, hF.out.bl, fun h k => hF.out.cl (by simpa using h) (by simpa using k), fun h k => hF.out.bs (by simpa using h) (by simpa using k), fun h => hF.out.ap (by simpa using h)⟩
                · intro d a W hI hd hdep
                  obtain ⟨ca, cc, gb, aa, ac, x14, x15, x85, x86, x87, x88, x89, x90, x91, x92, x93, x94, rfl, hF⟩ := hI
                  clear hdep hd
                  intro K hK
                  simp only [Act.put, List.setIfInBounds_toArray, List.set_cons_zero, List.set_cons_succ]
                  go_simp
                  refine hK.out _ _ ⟨ca, cc, gb, aa, ac, x14, x15, x85, x86, (.slice la ln lc), x88, x89, x90, x91, x92, x93, x94, by simp only [Act.put, List.setIfInBounds_toArray, List.set_cons_zero, List.set_cons_succ], ?_⟩
                  exact ⟨fun h => hF.out.f0 (by simpa using h), fun _ => rfl, fun h => hF.out.f2 (by simpa using h), fun h => hF.out.f3 (by simpa using h), fun h => hF.out.f4 (by simpa using h), fun h => hF.out.f5 (by simpa using h), fun h => hF.out.f6 (by simpa using h), fun h => hF.out.f7 (by simpa using h), fun h => hF.out.f8 (by simpa using h), fun h => hF.out.f9 (by simpa using h), fun h => hF.out.f10 (by simpa using h), fun h => hF.out.f11 (by simpa using h), fun h => by have := hF.out.o5_2 (by simpa using h); simpa using this, fun h => by have := hF.out.o5_4 (by simpa using h); simpa using this, fun h => by have := hF.out.o6_5 (by simpa using h); simpa using this, hF.out.bl, fun h k => hF.out.cl (by simpa using h) (by simpa using k), fun h k => hF.out.bs (by simpa using h) (by simpa using k), fun h => hF.out.ap (by simpa using h)⟩
                · intro d a W hI hd hdep
                  obtain ⟨ca, cc, gb, aa, ac, x14, x15, x85, x86, x87, x88, x89, x90, x91, x92, x93, x94, rfl, hF⟩ := hI
                  have hd1 : d 1 = true := dep_of hdep 1 (by kernel_rfl)
                  obtain rfl := hF.out.f1 hd1
                  have HD5 : Hid (d 5 = false) := no_later hF.out.o5_2 hd
                  have hbl := hF.out.bl
                  have hcl := clone_ints (.slice la ln lc) ws W (HIB.out.below hbl) (by have := HLB.out; have := HLN.out; omega)
                  rw [HLN.out] at hcl
                  clear hdep hd hd1
                  intro K hK
                  simp only [Act.put, List.setIfInBounds_toArray, List.set_cons_zero, List.set_cons_succ]
                  go_simp
                  refine hcl.mono ?_
                  rintro _ W1 ⟨ca1, cc1, rfl, hown, hB⟩
                  go_simp
                  refine hK.out _ _ ⟨ca1, cc1, gb, aa, ac, x14, x15, x85, x86, (.slice la ln lc), (.slice ca1 ln cc1), x89, x90, x91, x92, x93, x94, by simp only [Act.put, List.setIfInBounds_toArray, List.set_cons_zero, List.set_cons_succ], ?_⟩
                  exact ⟨fun h => hF.out.f0 (by simpa using h), fun h => hF.out.f1 (by simpa using h), fun _ => rfl, fun h => hF.out.f3 (by simpa using h), fun h => hF.out.f4 (by simpa using h), fun h => by have := HD5.out; simp [this] at h, fun h => hF.out.f6 (by simpa using h), fun h => hF.out.f7 (by simpa using h), fun h => hF.out.f8 (by simpa using h), fun h => hF.out.f9 (by simpa using h), fun h => hF.out.f10 (by simpa using h), fun h => hF.out.f11 (by simpa using h), fun _ => by simp, fun h => by have := hF.out.o5_4 (by simpa using h); simpa using this, fun h => by have := hF.out.o6_5 (by simpa using h); simpa using this, hF.out.bl.trans (hB.mono hF.out.bl.size), fun _ _ => own_less hown hbl.size, fun h k => tbox_next (hF.out.bs (by simpa using h) (by simpa using k)) hB, fun h => by have := HD5.out; simp [this] at h⟩
                · intro d a W hI hd hdep
                  obtain ⟨ca, cc, gb, aa, ac, x14, x15, x85, x86, x87, x88, x89, x90, x91, x92, x93, x94, rfl, hF⟩ := hI
                  clear hdep hd
                  intro K hK
                  simp only [Act.put, List.setIfInBounds_toArray, List.set_cons_zero, List.set_cons_succ]
                  go_simp
                  refine hK.out _ _ ⟨ca, cc, gb, aa, ac, x14, x15, x85, x86, x87, x88, (.int .i64 (k : Int)), x90, x91, x92, x93, x94, by simp only [Act.put, List.setIfInBounds_toArray, List.set_cons_zero, List.set_cons_succ], ?_⟩
                  exact ⟨fun h => hF.out.f0 (by simpa using h), fun h => hF.out.f1 (by simpa using h), fun h => hF.out.f2 (by simpa using h), fun _ => rfl, fun h => hF.out.f4 (by simpa using h), fun h => hF.out.f5 (by simpa using h), fun h => hF.out.f6 (by simpa using h), fun h => hF.out.f7 (by simpa using h), fun h => hF.out.f8 (by simpa using h), fun h => hF.out.f9 (by simpa using h), fun h => hF.out.f10 (by simpa using h), fun h => hF.out.f11 (by simpa using h), fun h => by have := hF.out.o5_2 (by simpa using h); simpa using this, fun h => by have := hF.out.o5_4 (by simpa using h); simpa using this, fun h => by have := hF.out.o6_5 (by simpa using h); simpa using this, hF.out.bl, fun h k => hF.out.cl (by simpa using h) (by simpa using k), fun h k => hF.out.bs (by simpa using h) (by simpa using k), fun h => hF.out.ap (by simpa using h)⟩
                · intro d a W hI hd hdep
                  obtain ⟨ca, cc, gb, aa, ac, x14, x15, x85, x86, x87, x88, x89, x90, x91, x92, x93, x94, rfl, hF⟩ := hI
                  have hd3 : d 3 = true := dep_of hdep 3 (by kernel_rfl)
                  obtain rfl := hF.out.f3 hd3
                  have HD5 : Hid (d 5 = false) := no_later hF.out.o5_4 hd
                  have hbl := hF.out.bl
                  have B1 := (Below.refl W.heap.size W).alloc (Nat.le_refl _) (Obj.cells #[.int .i64 (k : Int)] 3)
                  clear hdep hd hd3
                  intro K hK
                  simp only [Act.put, List.setIfInBounds_toArray, List.set_cons_zero, List.set_cons_succ]
                  go_simp
                  refine hK.out _ _ ⟨ca, cc, W.heap.size, aa, ac, x14, x15, x85, x86, x87, x88, (.int .i64 (k : Int)), (.slice (some ⟨W.heap.size, 0, none⟩) 1 1), x91, x92, x93, x94, by simp only [Act.put, List.setIfInBounds_toArray, List.set_cons_zero, List.set_cons_succ], ?_⟩
                  exact ⟨fun h => hF.out.f0 (by simpa using h), fun h => hF.out.f1 (by simpa using h), fun h => hF.out.f2 (by simpa using h), fun h => hF.out.f3 (by simpa using h), fun _ => rfl, fun h => by have := HD5.out; simp [this] at h, fun h => hF.out.f6 (by simpa using h), fun h => hF.out.f7 (by simpa using h), fun h => hF.out.f8 (by simpa using h), fun h => hF.out.f9 (by simpa using h), fun h => hF.out.f10 (by simpa using h), fun h => hF.out.f11 (by simpa using h), fun h => by have := hF.out.o5_2 (by simpa using h); simpa using this, fun _ => by simp, fun h => by have := hF.out.o6_5 (by simpa using h); simpa using this, hF.out.bl.trans (B1.mono hF.out.bl.size), fun h k => own_below (hF.out.cl (by simpa using h) (by simpa using k)) B1, fun _ _ => heap_alloc_new _ _, fun h => by have := HD5.out; simp [this] at h⟩
                · intro d a W hI hd hdep
                  obtain ⟨ca, cc, gb, aa, ac, x14, x15, x85, x86, x87, x88, x89, x90, x91, x92, x93, x94, rfl, hF⟩ := hI
                  have hd2 : d 2 = true := dep_of hdep 2 (by kernel_rfl)
                  have hd4 : d 4 = true := dep_of hdep 4 (by kernel_rfl)
                  obtain rfl := hF.out.f2 hd2
                  obtain rfl := hF.out.f4 hd4
                  have e2 := hd2
                  have e4 := hd4
                  have HD6 : Hid (d 6 = false) := no_later hF.out.o6_5 hd
                  have hrun := app_ints (x := (k : Int)) (by rw [HLN.out]; exact hF.out.cl hd2 hd) hF.out.bl (hF.out.bs hd4 hd) (by have := HLB.out; have := HLN.out; omega)
                  rw [HLN.out] at hrun
                  obtain ⟨aa1, ac1, W1, hr, hints, hB⟩ := hrun
                  clear hdep hd hd2 hd4
                  intro K hK
                  refine tstep_call_append (sv := .slice ca ln cc) (xv := .slice (some ⟨gb, 0, none⟩) 1 1) (v := .slice aa1 (ln + 1) ac1) (W1 := W1) (by rfl) _ _ 25 (by rfl) (by simp only [Act.put, List.setIfInBounds_toArray, List.set_cons_zero, List.set_cons_succ]; rfl) (by simp only [Act.put, List.setIfInBounds_toArray, List.set_cons_zero, List.set_cons_succ]; rfl) (by exact hr) ?_
                  simp only [Act.put, List.setIfInBounds_toArray, List.set_cons_zero, List.set_cons_succ]
                  refine hK.out _ _ ⟨ca, cc, gb, aa1, ac1, x14, x15, x85, x86, x87, (.slice ca ln cc), x89, (.slice (some ⟨gb, 0, none⟩) 1 1), (.slice aa1 (ln + 1) ac1), x92, x93, x94, by simp only [Act.put, List.setIfInBounds_toArray, List.set_cons_zero, List.set_cons_succ], ?_⟩
                  exact ⟨fun h => hF.out.f0 (by simpa using h), fun h => hF.out.f1 (by simpa using h), fun h => hF.out.f2 (by simpa using h), fun h => hF.out.f3 (by simpa using h), fun h => hF.out.f4 (by simpa using h), fun _ => rfl, fun h => by have := HD6.out; simp [this] at h, fun h => hF.out.f7 (by simpa using h), fun h => hF.out.f8 (by simpa using h), fun h => hF.out.f9 (by simpa using h), fun h => hF.out.f10 (by simpa using h), fun h => hF.out.f11 (by simpa using h), fun _ => by simpa using e2, fun _ => by simpa using e4, fun _ => by simp, hB, fun _ h => by simp at h, fun _ h => by simp at h, fun _ => hints⟩
                · intro d a W hI hd hdep
                  obtain ⟨ca, cc, gb, aa, ac, x14, x15, x85, x86, x87, x88, x89, x90, x91, x92, x93, x94, rfl, hF⟩ := hI
                  have hd0 : d 0 = true := dep_of hdep 0 (by kernel_rfl)
                  have hd5 : d 5 = true := dep_of hdep 5 (by kernel_rfl)
                  obtain rfl := hF.out.f0 hd0
                  obtain rfl := hF.out.f5 hd5
                  have e5 := hd5
                  have hbl := hF.out.bl
                  have hbg := HBG.out W aa ac hbl (hF.out.ap hd5)
                  clear hdep hd hd0 hd5
                  intro K hK
                  simp only [Act.put, List.setIfInBounds_toArray, List.set_cons_zero, List.set_cons_succ]
                  go_simp
                  refine hbg.mono ?_
                  rintro _ W1 ⟨rfl, hB⟩
                  go_simp
                  refine hK.out _ _ ⟨ca, cc, gb, aa, ac, x14, x15, x85, (.agg #[.int .i64 tt, .int .i64 n, .slice ga gm gc]), x87, x88, x89, x90, (.slice aa (ln + 1) ac), (.tuple #[.bool r, .int .i64 0]), x93, x94, by simp only [Act.put, List.setIfInBounds_toArray, List.set_cons_zero, List.set_cons_succ], ?_⟩
                  exact ⟨fun h => hF.out.f0 (by simpa using h), fun h => hF.out.f1 (by simpa using h), fun h => hF.out.f2 (by simpa using h), fun h => hF.out.f3 (by simpa using h), fun h => hF.out.f4 (by simpa using h), fun h => hF.out.f5 (by simpa using h), fun _ => rfl, fun h => hF.out.f7 (by simpa using h), fun h => hF.out.f8 (by simpa using h), fun h => hF.out.f9 (by simpa using h), fun h => hF.out.f10 (by simpa using h), fun h => hF.out.f11 (by simpa using h), fun h => by have := hF.out.o5_2 (by simpa using h); simpa using this, fun h => by have := hF.out.o5_4 (by simpa using h); simpa using this, fun _ => by simpa using e5, hF.out.bl.trans (hB.mono hF.out.bl.size), fun _ k => absurd (e5.symm.trans (by simpa using k : d 5 = false)) (by decide), fun _ k => absurd (e5.symm.trans (by simpa using k : d 5 = false)) (by decide), fun _ => (hF.out.ap e5).below hB⟩
                · intro d a W hI hd hdep
                  obtain ⟨ca, cc, gb, aa, ac, x14, x15, x85, x86, x87, x88, x89, x90, x91, x92, x93, x94, rfl, hF⟩ := hI
                  have hd6 : d 6 = true := dep_of hdep 6 (by kernel_rfl)
                  obtain rfl := hF.out.f6 hd6
                  clear hdep hd hd6
                  intro K hK
                  simp only [Act.put, List.setIfInBounds_toArray, List.set_cons_zero, List.set_cons_succ]
                  go_simp
                  refine hK.out _ _ ⟨ca, cc, gb, aa, ac, x14, x15, (.tuple #[.bool r, .int .i64 0]), x86, x87, x88, x89, x90, x91, (.tuple #[.bool r, .int .i64 0]), x93, x94, by simp only [Act.put, List.setIfInBounds_toArray, List.set_cons_zero, List.set_cons_succ], ?_⟩
                  exact ⟨fun h => hF.out.f0 (by simpa using h), fun h => hF.out.f1 (by simpa using h), fun h => hF.out.f2 (by simpa using h), fun h => hF.out.f3 (by simpa using h), fun h => hF.out.f4 (by simpa using h), fun h => hF.out.f5 (by simpa using h), fun h => hF.out.f6 (by simpa using h), fun _ => rfl, fun h => hF.out.f8 (by simpa using h), fun h => hF.out.f9 (by simpa using h), fun h => hF.out.f10 (by simpa using h), fun h => hF.out.f11 (by simpa using h), fun h => by have := hF.out.o5_2 (by simpa using h); simpa using this, fun h => by have := hF.out.o5_4 (by simpa using h); simpa using this, fun h => by have := hF.out.o6_5 (by simpa using h); simpa using this, hF.out.bl, fun h k => hF.out.cl (by simpa using h) (by simpa using k), fun h k => hF.out.bs (by simpa using h) (by simpa using k), fun h => hF.out.ap (by simpa using h)⟩
                · intro d a W hI hd hdep
                  obtain ⟨ca, cc, gb, aa, ac, x14, x15, x85, x86, x87, x88, x89, x90, x91, x92, x93, x94, rfl, hF⟩ := hI
                  have hd7 : d 7 = true := dep_of hdep 7 (by kernel_rfl)
                  obtain rfl := hF.out.f7 hd7
                  clear hdep hd hd7
                  intro K hK
                  simp only [Act.put, List.setIfInBounds_toArray, List.set_cons_zero, List.set_cons_succ]
                  go_simp
                  refine hK.out _ _ ⟨ca, cc, gb, aa, ac, x14, x15, (.tuple #[.bool r, .int .i64 0]), x86, x87, x88, x89, x90, x91, x92, (.bool r), x94, by simp only [Act.put, List.setIfInBounds_toArray, List.set_cons_zero, List.set_cons_succ], ?_⟩
                  exact ⟨fun h => hF.out.f0 (by simpa using h), fun h => hF.out.f1 (by simpa using h), fun h => hF.out.f2 (by simpa using h), fun h => hF.out.f3 (by simpa using h), fun h => hF.out.f4 (by simpa using h), fun h => hF.out.f5 (by simpa using h), fun h => hF.out.f6 (by simpa using h), fun h => hF.out.f7 (by simpa using h), fun _ => rfl, fun h => hF.out.f9 (by simpa using h), fun h => hF.out.f10 (by simpa using h), fun h => hF.out.f11 (by simpa using h), fun h => by have := hF.out.o5_2 (by simpa using h); simpa using this, fun h => by have := hF.out.o5_4 (by simpa using h); simpa using this, fun h => by have := hF.out.o6_5 (by simpa using h); simpa using this, hF.out.bl, fun h k => hF.out.cl (by simpa using h) (by simpa using k), fun h k => hF.out.bs (by simpa using h) (by simpa using k), fun h => hF.out.ap (by simpa using h)⟩
                · intro d a W hI hd hdep
                  obtain ⟨ca, cc, gb, aa, ac, x14, x15, x85, x86, x87, x88, x89, x90, x91, x92, x93, x94, rfl, hF⟩ := hI
                  have hd7 : d 7 = true := dep_of hdep 7 (by kernel_rfl)
                  obtain rfl := hF.out.f7 hd7
                  clear hdep hd hd7
                  intro K hK
                  simp only [Act.put, List.setIfInBounds_toArray, List.set_cons_zero, List.set_cons_succ]
                  go_simp
                  refine hK.out _ _ ⟨ca, cc, gb, aa, ac, x14, x15, (.tuple #[.bool r, .int .i64 0]), x86, x87, x88, x89, x90, x91, x92, x93, (.int .i64 0), by simp only [Act.put, List.setIfInBounds_toArray, List.set_cons_zero, List.set_cons_succ], ?_⟩
                  exact ⟨fun h => hF.out.f0 (by simpa using h), fun h => hF.out.f1 (by simpa using h), fun h => hF.out.f2 (by simpa using h), fun h => hF.out.f3 (by simpa using h), fun h => hF.out.f4 (by simpa using h), fun h => hF.out.f5 (by simpa using h), fun h => hF.out.f6 (by simpa using h), fun h => hF.out.f7 (by simpa using h), fun h => hF.out.f8 (by simpa using h), fun _ => rfl, fun h => hF.out.f10 (by simpa using h), fun h => hF.out.f11 (by simpa using h), fun h => by have := hF.out.o5_2 (by simpa using h); simpa using this, fun h => by have := hF.out.o5_4 (by simpa using h); simpa using this, fun h => by have := hF.out.o6_5 (by simpa using h); simpa using this, hF.out.bl, fun h k => hF.out.cl (by simpa using h) (by simpa using k), fun h k => hF.out.bs (by simpa using h) (by simpa using k), fun h => hF.out.ap (by simpa using h)⟩
                · intro d a W hI hd hdep
                  obtain ⟨ca, cc, gb, aa, ac, x14, x15, x85, x86, x87, x88, x89, x90, x91, x92, x93, x94, rfl, hF⟩ := hI
                  have hd8 : d 8 = true := dep_of hdep 8 (by kernel_rfl)
                  obtain rfl := hF.out.f8 hd8
                  clear hdep hd hd8
                  intro K hK
                  simp only [Act.put, List.setIfInBounds_toArray, List.set_cons_zero, List.set_cons_succ]
                  go_simp
                  refine hK.out _ _ ⟨ca, cc, gb, aa, ac, (.bool r), x15, x85, x86, x87, x88, x89, x90, x91, x92, (.bool r), x94, by simp only [Act.put, List.setIfInBounds_toArray, List.set_cons_zero, List.set_cons_succ], ?_⟩
                  exact ⟨fun h => hF.out.f0 (by simpa using h), fun h => hF.out.f1 (by simpa using h), fun h => hF.out.f2 (by simpa using h), fun h => hF.out.f3 (by simpa using h), fun h => hF.out.f4 (by simpa using h), fun h => hF.out.f5 (by simpa using h), fun h => hF.out.f6 (by simpa using h), fun h => hF.out.f7 (by simpa using h), fun h => hF.out.f8 (by simpa using h), fun h => hF.out.f9 (by simpa using h), fun _ => rfl, fun h => hF.out.f11 (by simpa using h), fun h => by have := hF.out.o5_2 (by simpa using h); simpa using this, fun h => by have := hF.out.o5_4 (by simpa using h); simpa using this, fun h => by have := hF.out.o6_5 (by simpa using h); simpa using this, hF.out.bl, fun h k => hF.out.cl (by simpa using h) (by simpa using k), fun h k => hF.out.bs (by simpa using h) (by simpa using k), fun h => hF.out.ap (by simpa using h)⟩
                · intro d a W hI hd hdep
                  obtain ⟨ca, cc, gb, aa, ac, x14, x15, x85, x86, x87, x88, x89, x90, x91, x92, x93, x94, rfl, hF⟩ := hI
                  have hd9 : d 9 = true := dep_of hdep 9 (by kernel_rfl)
                  obtain rfl := hF.out.f9 hd9
                  clear hdep hd hd9
                  intro K hK
                  simp only [Act.put, List.setIfInBounds_toArray, List.set_cons_zero, List.set_cons_succ]
                  go_simp
                  refine hK.out _ _ ⟨ca, cc, gb, aa, ac, x14, (.int .i64 0), x85, x86, x87, x88, x89, x90, x91, x92, x93, (.int .i64 0), by simp only [Act.put, List.setIfInBounds_toArray, List.set_cons_zero, List.set_cons_succ], ?_⟩
                  exact ⟨fun h => hF.out.f0 (by simpa using h), fun h => hF.out.f1 (by simpa using h), fun h => hF.out.f2 (by simpa using h), fun h => hF.out.f3 (by simpa using h), fun h => hF.out.f4 (by simpa using h), fun h => hF.out.f5 (by simpa using h), fun h => hF.out.f6 (by simpa using h), fun h => hF.out.f7 (by simpa using h), fun h => hF.out.f8 (by simpa using h), fun h => hF.out.f9 (by simpa using h), fun h => hF.out.f10 (by simpa using h), fun _ => rfl, fun h => by have := hF.out.o5_2 (by simpa using h); simpa using this, fun h => by have := hF.out.o5_4 (by simpa using h); simpa using this, fun h => by have := hF.out.o6_5 (by simpa using h); simpa using this, hF.out.bl, fun h k => hF.out.cl (by simpa using h) (by simpa using k), fun h k => hF.out.bs (by simpa using h) (by simpa using k), fun h => hF.out.ap (by simpa using h)⟩
              · intro d a W hI hall
                obtain ⟨ca, cc, gb, aa, ac, x14, x15, x85, x86, x87, x88, x89, x90, x91, x92, x93, x94, rfl, hF⟩ := hI
                simp only [List.length_cons, List.length_nil] at hall
                obtain rfl := hF.out.f0 (hall 0 (by omega))
                obtain rfl := hF.out.f1 (hall 1 (by omega))
                obtain rfl := hF.out.f2 (hall 2 (by omega))
                obtain rfl := hF.out.f3 (hall 3 (by omega))
                obtain rfl := hF.out.f4 (hall 4 (by omega))
                obtain rfl := hF.out.f5 (hall 5 (by omega))
                obtain rfl := hF.out.f6 (hall 6 (by omega))
                obtain rfl := hF.out.f7 (hall 7 (by omega))
                obtain rfl := hF.out.f8 (hall 8 (by omega))
                obtain rfl := hF.out.f9 (hall 9 (by omega))
                obtain rfl := hF.out.f10 (hall 10 (by omega))
                obtain rfl := hF.out.f11 (hall 11 (by omega))
                have HBL : Hid (Below wb.heap.size wb W) := hF.out.bl
                clear hF hall c0 c1 c2 hgl
                simp only [Act.put, List.setIfInBounds_toArray, List.set_cons_zero, List.set_cons_succ]
                have HW : Hid (Below w.heap.size w W ∧ W.heap[w.heap.size]? = some (Obj.cells #[.int .i64 tt, .int .i64 n, .slice ga gm gc] 24)) := ⟨HHb.out.1.trans (HBL.out.mono HHb.out.1.size), tbox_next HHb.out.2 HBL.out⟩
                have HNB2 : Hid (r = false → ∀ y : Nat, y < k + 1 → cBg tt n ps (ws ++ [(y : Int)]) = false) := fun hr y hy => by
                  by_cases e : y = k
                  · rw [e, HR.out]; exact hr
                  · exact HNB.out y (by omega)
                cases r with
                | true =>
                  go_wp2_with fail
                  go_ret
                  exact ⟨by simp, HW.out.1⟩
                | false =>
                  go_wp2_with fail
                  go_roundw
                  case rel => exact ⟨k + 1, by omega, by go_num, HW, HNB2.out rfl⟩
                  case measure => simp [intOf]; omega
            · obtain rfl : k = tt := by omega
              have HX1 : Hid (1 ≤ x) := by
                show _ ≤ _
                have h1 := ckW_zero HCW.out
                have h2 : x = cnt ps ws 0 0 ws.length := by rw [← HX.out]; unfold cTr; rw [if_pos HCW.out]
                have h3 : cBg k n ps ws = true := HBT.out
                rw [h2]
                refine bgn_end h1.1 (cBg_true h3).2 fun y hy hb => ?_
                have h4 := HNB.out y hy
                have h5 : ckW k n ps (ws ++ [(y : Int)]) = 0 := ckW_of h1.1 (by have := HLN.out; rw [List.length_append]; show _ + 1 ≤ 20; omega) (fun z hz => by
                  rw [List.mem_append] at hz
                  rcases hz with hz | hz
                  · exact h1.2.2 z hz
                  · simp at hz; omega)
                exact cBg_false h4 h5 hb
              have hx2 : (0 : Int) < (x : Int) := by have := HX1.out; omega
              go_wp2_with fail
              go_ret
              exact ⟨by simp; have := HX1.out; omega, HHb.out.1⟩
        · have e1 : decide (0 < ln) = true := by simp; omega
          have e2 : decide ((0 : Int) < (ln : Int)) = true := by simp; omega
          have e3 : decide (0 < x) = false := by simp; omega
          have e4 : decide ((0 : Int) < (x : Int)) = false := by simp; omega
          clear hx0
          obtain ⟨bb, oo, rfl, -⟩ : ∃ b o, la = some ⟨b, o, none⟩ ∧ True := by
            obtain ⟨ao', cap', e, -, h | ⟨b, o, h, -⟩⟩ := HI.out
            · rw [h] at e; simp at e; omega
            · simp only [Value.slice.injEq] at e; exact ⟨b, o, by rw [e.1, h], trivial⟩
          have HCT : Hid (ckW tt n ps (ws.take (ln - 1)) = 0) := ckW_of (ckW_zero HCW.out).1 (by have := (ckW_zero HCW.out).2.1; rw [List.length_take]; omega) fun y hy => (ckW_zero HCW.out).2.2 y (List.mem_of_mem_take hy)
          have HBTT : Hid (cBg tt n ps (ws.take (ln - 1)) = true) := by
            exact cBg_of HCT.out (bgn_pre (List.take_prefix _ _) (cBg_true HBT.out).2)
          have HIT : Hid (Ints w (.slice (some ⟨bb, oo, none⟩) (ln - 1) lc) (ws.take (ln - 1))) := by
            obtain ⟨ao', cap', e, hm, h⟩ := HI.out
            simp only [Value.slice.injEq] at e
            obtain ⟨rfl, e1, rfl⟩ := e
            refine ⟨_, _, by rw [List.length_take, ← e1, Nat.min_eq_left (by omega)], by rw [List.length_take]; omega, ?_⟩
            rcases h with h | ⟨b, o, h1, h2, h3⟩
            · left; rw [h]; simp
            · right
              refine ⟨b, o, h1, h2, fun q hq => ?_⟩
              rw [List.length_take] at hq
              rw [List.getElem_take]
              exact h3 q (by omega)
          have HBG : Hid (∀ X : Kp (Sb w5), Calls Try.prog 5 #[.agg #[.int .i64 tt, .int .i64 n, .slice ga gm gc], .slice (some ⟨bb, oo, none⟩) (ln - 1) lc] X.W fun e w' => e = .returned (.tuple #[.bool true, .int .i64 0]) ∧ ∃ Y : Kp (Sb w5), w' = Y.W) := fun X => by
            have hX : Below w.heap.size w X.W := HH5.out.1.trans (X.h.mono HH5.out.1.size)
            have := CBegins_any tt n _ _ ps (ws.take (ln - 1)) X.W (HP.out.below hX) (HIT.out.below hX)
            rw [HCT.out, HBTT.out] at this
            exact Kp.calls X Sb.next this
          have p0 : ∀ X : Kp (Sb w5), X.W.cell? ⟨w.heap.size, 0, none⟩ = some (.int .i64 tt) := fun X => tcell_blk (tbox_next HH5.out.2 X.h) 0
          have p1 : ∀ X : Kp (Sb w5), X.W.cell? ⟨w.heap.size, 1, none⟩ = some (.int .i64 n) := fun X => tcell_blk (tbox_next HH5.out.2 X.h) 1
          have p2 : ∀ X : Kp (Sb w5), X.W.cell? ⟨w.heap.size, 2, none⟩ = some (.slice ga gm gc) := fun X => tcell_blk (tbox_next HH5.out.2 X.h) 2
          have hl1 : (0 : Int) < (ln : Int) := by omega
          have hl2 : ((ln : Int) - 1) = ((ln - 1 : Nat) : Int) := by omega
          have hl3 : (ln : Int) - 1 ≤ (lc : Int) := by omega
          have hl4 : ((ln : Int) - 1).toNat = ln - 1 := by omega
          have hne : Nonempty (Kp (Sb w5)) := ⟨⟨_, Sb.drew w5⟩⟩
          have hq5 : ln ≤ 20 := by have := (ckW_zero HCW.out).2.1; rw [HLN.out] at this; exact this
          go_upto_region 11 with fail
          refine wp_region_kept mixed (by kernel_rfl) (Sb.drew w5) ?_
          repeat (go_big_quiet_step (first | (go_at_call 5; with_reducible exact HBG.out _)))
          refine wpQuiet_nil ?_
          intro w6 hw1
          obtain ⟨⟨w6, HS3⟩, rfl⟩ := hw1
          have HH6 : Hid (Below w.heap.size w w6 ∧ w6.heap[w.heap.size]? = some (Obj.cells #[.int .i64 tt, .int .i64 n, .slice ga gm gc] 24)) := ⟨HH5.out.1.trans (HS3.mono HH5.out.1.size), tbox_next HH5.out.2 HS3⟩
          clear p0 p1 p2 hne HS3 HBG HIT hl1 hl2 hl3 hl4
          by_cases hl20 : ln = 20
          · subst hl20
            go_wp2_with fail
            go_ret
            exact ⟨by simp, HH6.out.1⟩
          · have hb20 : ((ln : Int) == 20) = false := by simp; omega
            have k0 := tcell_blk HH6.out.2 0
            have k1 := tcell_blk HH6.out.2 1
            have k2 := tcell_blk HH6.out.2 2
            simp only [List.getElem?_toArray, List.getElem?_cons_zero, List.getElem?_cons_succ] at k0 k1 k2
            have hll : ln < 20 := by omega
            have HLB : Hid (ln ≤ 20) := by show _ ≤ _; omega
            go_wp2_with fail
            clear k0 k1 k2
            try simp only [e1, e2, e3, e4]
            clear e1 e2 e3 e4
            go_loopw [82] (fun i wr => ∃ k : Nat, k ≤ tt ∧ i = .int .i64 (k : Int) ∧ Hid (Below w.heap.size w wr ∧ wr.heap[w.heap.size]? = some (Obj.cells #[.int .i64 tt, .int .i64 n, .slice ga gm gc] 24)) ∧ Hid (∀ y : Nat, y < k → cBg tt n ps (ws ++ [(y : Int)]) = false)) (fun i _ => tt - (intOf i).toNat)
            case atStart => exact ⟨0, by omega, rfl, HH6, fun y hy => by omega⟩
            case round =>
              obtain ⟨k, hk, rfl, HHb, HNB⟩ := hrel
              by_cases hlt : k < tt
              · have HR0 : Hid (ckW tt n ps (ws ++ [(k : Int)]) = 0) := ckW_of (ckW_zero HCW.out).1 (by have := HLN.out; rw [List.length_append]; show _ + 1 ≤ 20; omega) (fun y hy => by
                  rw [List.mem_append] at hy
                  rcases hy with hy | hy
                  · exact (ckW_zero HCW.out).2.2 y hy
                  · simp at hy; omega)
                obtain ⟨r, HR⟩ : ∃ r, Hid (cBg tt n ps (ws ++ [(k : Int)]) = r) := ⟨_, (rfl : cBg tt n ps (ws ++ [(k : Int)]) = _)⟩
                have HBG : Hid (∀ W aa ac, Below wr.heap.size wr W → Ints W (.slice aa (ln + 1) ac) (ws ++ [(k : Int)]) → Calls Try.prog 5 #[.agg #[.int .i64 tt, .int .i64 n, .slice ga gm gc], .slice aa (ln + 1) ac] W fun e w' => e = .returned (.tuple #[.bool r, .int .i64 0]) ∧ Below W.heap.size W w') := fun W aa ac hB hi => by
                  have := CBegins_any tt n _ _ ps (ws ++ [(k : Int)]) W (HP.out.below (HHb.out.1.trans (hB.mono HHb.out.1.size))) hi
                  rw [HR.out, HR0.out] at this; exact this
                have HIB : Hid (Ints wr (.slice (some ⟨bb, oo, none⟩) ln lc) ws) := HI.out.below HHb.out.1
                have c0 := tcell_blk HHb.out.2 0
                have c1 := tcell_blk HHb.out.2 1
                have c2 := tcell_blk HHb.out.2 2
                simp only [List.getElem?_toArray, List.getElem?_cons_zero, List.getElem?_cons_succ] at c0 c1 c2
                have hgl : w.heap.size < wr.heap.size := heap_lt3 HHb.out.2
                have hk1 : (k : Int) < (tt : Int) := by omega
                have ht30 : tt ≤ 30 := by have := okTN_le (chk_zero (ckW_zero HCW.out).1).1; omega
                go_upto_region 19 with fail
                obtain ⟨wb, rfl⟩ : ∃ wb, wb = wr := ⟨_, rfl⟩
                try clear hl1
                try clear hxx
                try clear hb20
                try clear hl0
                refine wp_region_free mixed (fun a0 d a W => ∃ (ca : Option Addr) (cc : Nat) (gb : Nat) (aa : Option Addr) (ac : Nat) (x14 x15 x85 x86 x87 x88 x89 x90 x91 x92 x93 x94 : Value), a = ((((((((((((a0.put (some 14) x14).put (some 15) x15).put (some 85) x85).put (some 86) x86).put (some 87) x87).put (some 88) x88).put (some 89) x89).put (some 90) x90).put (some 91) x91).put (some 92) x92).put (some 93) x93).put (some 94) x94) ∧ Hid (RCb wb w.heap.size tt n ga gm gc (some ⟨bb, oo, none⟩) ln lc ws (k : Int) r ca cc gb aa ac d x14 x15 x85 x86 x87 x88 x89 x90 x91 x92 x93 x94 W)) (by kernel_rfl) ⟨none, 0, 0, none, 0, u14, u15, u85, u86, u87, u88, u89, u90, u91, u92, u93, u94, by simp only [Act.put, List.setIfInBounds_toArray, List.set_cons_zero, List.set_cons_succ], ?_⟩ ?_ ?_
                · exact ⟨fun h => no_way h, fun h => no_way h, fun h => no_way h, fun h => no_way h, fun h => no_way h, fun h => no_way h, fun h => no_way h, fun h => no_way h, fun h => no_way h, fun h => no_way h, fun h => no_way h, fun h => no_way h, fun h => no_way h, fun h => no_way h, fun h => no_way h, ⟨rfl, rfl, rfl, Nat.le_refl _, fun _ _ => rfl⟩, fun h => no_way h, fun h => no_way h, fun h => no_way h⟩
                · simp only [StepAll, and_true]
                  refine ⟨?_, ?_, ?_, ?_, ?_, ?_, ?_, ?_, ?_, ?_, ?_, ?_⟩
                  · intro d a W hI hd hdep
                    obtain ⟨ca, cc, gb, aa, ac, x14, x15, x85, x86, x87, x88, x89, x90, x91, x92, x93, x94, rfl, hF⟩ := hI
                    have hbl := hF.out.bl
                    have y0 := (hbl.cell (p := ⟨w.heap.size, 0, none⟩) hgl).trans c0
                    have y1 := (hbl.cell (p := ⟨w.heap.size, 1, none⟩) hgl).trans c1
                    have y2 := (hbl.cell (p := ⟨w.heap.size, 2, none⟩) hgl).trans c2
                    clear hdep hd
                    intro K hK
                    simp only [Act.put, List.setIfInBounds_toArray, List.set_cons_zero, List.set_cons_succ]
                    go_simp
                    refine hK.out _ _ ⟨ca, cc, gb, aa, ac, x14, x15, x85, (.agg #[.int .i64 tt, .int .i64 n, .slice ga gm gc]), x87, x88, x89, x90, x91, x92, x93, x94, by simp only [Act.put, List.setIfInBounds_toArray, List.set_cons_zero, List.set_cons_succ], ?_⟩
                    exact ⟨fun _ => rfl, fun h => hF.out.f1 (by simpa using h), fun h => hF.out.f2 (by simpa using h), fun h => hF.out.f3 (by simpa using h), fun h => hF.out.f4 (by simpa using h), fun h => hF.out.f5 (by simpa using h), fun h => hF.out.f6 (by simpa using h), fun h => hF.out.f7 (by simpa using h), fun h => hF.out.f8 (by simpa using h), fun h => hF.out.f9 (by simpa using h), fun h => hF.out.f10 (by simpa using h), fun h => hF.out.f11 (by simpa using h), fun h => by have := hF.out.o5_2 (by simpa using h); simpa using this, fun h => by have := hF.out.o5_4 (by simpa using h); simpa using this, fun h => by have := hF.out.o6_5 (by simpa using h); simpa using this, hF.out.bl, fun h k => hF.out.cl (by simpa using h) (by simpa using k), fun h k => hF.out.bs (by simpa using h) (by simpa using k), fun h => hF.out.ap (by simpa using h)⟩
                  · intro d a W hI hd hdep
                    obtain ⟨ca, cc, gb, aa, ac, x14, x15, x85, x86, x87, x88, x89, x90, x91, x92, x93, x94, rfl, hF⟩ := hI
                    clear hdep hd
                    intro K hK
                    simp only [Act.put, List.setIfInBounds_toArray, List.set_cons_zero, List.set_cons_succ]
                    go_simp
                    refine hK.out _ _ ⟨ca, cc, gb, aa, ac, x14, x15, x85, x86, (.slice (some ⟨bb, oo, none⟩) ln lc), x88, x89, x90, x91, x92, x93, x94, by simp only [Act.put, List.setIfInBounds_toArray, List.set_cons_zero, List.set_cons_succ], ?_⟩
                    exact ⟨fun h => hF.out.f0 (by simpa using h), fun _ => rfl, fun h => hF.out.f2 (by simpa using h), fun h => hF.out.f3 (by simpa using h), fun h => hF.out.f4 (by simpa using h), fun h => hF.out.f5 (by simpa using h), fun h => hF.out.f6 (by simpa using h), fun h => hF.out.f7 (by simpa using h), fun h => hF.out.f8 (by simpa using h), fun h => hF.out.f9 (by simpa using h), fun h => hF.out.f10 (by simpa using h), fun h => hF.out.f11 (by simpa using h), fun h => by have := hF.out.o5_2 (by simpa using h); simpa using this, fun h => by have := hF.out.o5_4 (by simpa using h); simpa using this, fun h => by have := hF.out.o6_5 (by simpa using h); simpa using this, hF.out.bl, fun h k => hF.out.cl (by simpa using h) (by simpa using k), fun h k => hF.out.bs (by simpa using h) (by simpa using k), fun h => hF.out.ap (by simpa using h)⟩
                  · intro d a W hI hd hdep
                    obtain ⟨ca, cc, gb, aa, ac, x14, x15, x85, x86, x87, x88, x89, x90, x91, x92, x93, x94, rfl, hF⟩ := hI
                    have hd1 : d 1 = true := dep_of hdep 1 (by kernel_rfl)
                    obtain rfl := hF.out.f1 hd1
                    have HD5 : Hid (d 5 = false) := no_later hF.out.o5_2 hd
                    have hbl := hF.out.bl
                    have hcl := clone_ints (.slice (some ⟨bb, oo, none⟩) ln lc) ws W (HIB.out.below hbl) (by have := HLB.out; have := HLN.out; omega)
                    rw [HLN.out] at hcl
                    clear hdep hd hd1
                    intro K hK
                    simp only [Act.put, List.setIfInBounds_toArray, List.set_cons_zero, List.set_cons_succ]
                    go_simp
                    refine hcl.mono ?_
                    rintro _ W1 ⟨ca1, cc1, rfl, hown, hB⟩
                    go_simp
                    refine hK.out _ _ ⟨ca1, cc1, gb, aa, ac, x14, x15, x85, x86, (.slice (some ⟨bb, oo, none⟩) ln lc), (.slice ca1 ln cc1), x89, x90, x91, x92, x93, x94, by simp only [Act.put, List.setIfInBounds_toArray, List.set_cons_zero, List.set_cons_succ], ?_⟩
                    exact ⟨fun h => hF.out.f0 (by simpa using h), fun h => hF.out.f1 (by simpa using h), fun _ => rfl, fun h => hF.out.f3 (by simpa using h), fun h => hF.out.f4 (by simpa using h), fun h => by have := HD5.out; simp [this] at h, fun h => hF.out.f6 (by simpa using h), fun h => hF.out.f7 (by simpa using h), fun h => hF.out.f8 (by simpa using h), fun h => hF.out.f9 (by simpa using h), fun h => hF.out.f10 (by simpa using h), fun h => hF.out.f11 (by simpa using h), fun _ => by simp, fun h => by have := hF.out.o5_4 (by simpa using h); simpa using this, fun h => by have := hF.out.o6_5 (by simpa using h); simpa using this, hF.out.bl.trans (hB.mono hF.out.bl.size), fun _ _ => own_less hown hbl.size, fun h k => tbox_next (hF.out.bs (by simpa using h) (by simpa using k)) hB, fun h => by have := HD5.out; simp [this] at h⟩
                  · intro d a W hI hd hdep
                    obtain ⟨ca, cc, gb, aa, ac, x14, x15, x85, x86, x87, x88, x89, x90, x91, x92, x93, x94, rfl, hF⟩ := hI
                    clear hdep hd
                    intro K hK
                    simp only [Act.put, List.setIfInBounds_toArray, List.set_cons_zero, List.set_cons_succ]
                    go_simp
                    refine hK.out _ _ ⟨ca, cc, gb, aa, ac, x14, x15, x85, x86, x87, x88, (.int .i64 (k : Int)), x90, x91, x92, x93, x94, by simp only [Act.put, List.setIfInBounds_toArray, List.set_cons_zero, List.set_cons_succ], ?_⟩
                    exact ⟨fun h => hF.out.f0 (by simpa using h), fun h => hF.out.f1 (by simpa using h), fun h => hF.out.f2 (by simpa using h), fun _ => rfl, fun h => hF.out.f4 (by simpa using h), fun h => hF.out.f5 (by simpa using h), fun h => hF.out.f6 (by simpa using h), fun h => hF.out.f7 (by simpa using h), fun h => hF.out.f8 (by simpa using h), fun h => hF.out.f9 (by simpa using h), fun h => hF.out.f10 (by simpa using h), fun h => hF.out.f11 (by simpa using h), fun h => by have := hF.out.o5_2 (by simpa using h); simpa using this, fun h => by have := hF.out.o5_4 (by simpa using h); simpa using this, fun h => by have := hF.out.o6_5 (by simpa using h); simpa using this, hF.out.bl, fun h k => hF.out.cl (by simpa using h) (by simpa using k), fun h k => hF.out.bs (by simpa using h) (by simpa using k), fun h => hF.out.ap (by simpa using h)⟩
                  · intro d a W hI hd hdep
                    obtain ⟨ca, cc, gb, aa, ac, x14, x15, x85, x86, x87, x88, x89, x90, x91, x92, x93, x94, rfl, hF⟩ := hI
                    have hd3 : d 3 = true := dep_of hdep 3 (by kernel_rfl)
                    obtain rfl := hF.out.f3 hd3
                    have HD5 : Hid (d 5 = false) := no_later hF.out.o5_4 hd
                    have hbl := hF.out.bl
                    have B1 := (Below.refl W.heap.size W).alloc (Nat.le_refl _) (Obj.cells #[.int .i64 (k : Int)] 3)
                    clear hdep hd hd3
                    intro K hK
                    simp only [Act.put, List.setIfInBounds_toArray, List.set_cons_zero, List.set_cons_succ]
                    go_simp
                    refine hK.out _ _ ⟨ca, cc, W.heap.size, aa, ac, x14, x15, x85, x86, x87, x88, (.int .i64 (k : Int)), (.slice (some ⟨W.heap.size, 0, none⟩) 1 1), x91, x92, x93, x94, by simp only [Act.put, List.setIfInBounds_toArray, List.set_cons_zero, List.set_cons_succ], ?_⟩
                    exact ⟨fun h => hF.out.f0 (by simpa using h), fun h => hF.out.f1 (by simpa using h), fun h => hF.out.f2 (by simpa using h), fun h => hF.out.f3 (by simpa using h), fun _ => rfl, fun h => by have := HD5.out; simp [this] at h, fun h => hF.out.f6 (by simpa using h), fun h => hF.out.f7 (by simpa using h), fun h => hF.out.f8 (by simpa using h), fun h => hF.out.f9 (by simpa using h), fun h => hF.out.f10 (by simpa using h), fun h => hF.out.f11 (by simpa using h), fun h => by have := hF.out.o5_2 (by simpa using h); simpa using this, fun _ => by simp, fun h => by have := hF.out.o6_5 (by simpa using h); simpa using this, hF.out.bl.trans (B1.mono hF.out.bl.size), fun h k => own_below (hF.out.cl (by simpa using h) (by simpa using k)) B1, fun _ _ => heap_alloc_new _ _, fun h => by have := HD5.out; simp [this] at h⟩
                  · intro d a W hI hd hdep
                    obtain ⟨ca, cc, gb, aa, ac, x14, x15, x85, x86, x87, x88, x89, x90, x91, x92, x93, x94, rfl, hF⟩ := hI
                    have hd2 : d 2 = true := dep_of hdep 2 (by kernel_rfl)
                    have hd4 : d 4 = true := dep_of hdep 4 (by kernel_rfl)
                    obtain rfl := hF.out.f2 hd2
                    obtain rfl := hF.out.f4 hd4
                    have e2 := hd2
                    have e4 := hd4
                    have HD6 : Hid (d 6 = false) := no_later hF.out.o6_5 hd
                    have hrun := app_ints (x := (k : Int)) (by rw [HLN.out]; exact hF.out.cl hd2 hd) hF.out.bl (hF.out.bs hd4 hd) (by have := HLB.out; have := HLN.out; omega)
                    rw [HLN.out] at hrun
                    obtain ⟨aa1, ac1, W1, hr, hints, hB⟩ := hrun
                    clear hdep hd hd2 hd4
                    intro K hK
                    refine tstep_call_append (sv := .slice ca ln cc) (xv := .slice (some ⟨gb, 0, none⟩) 1 1) (v := .slice aa1 (ln + 1) ac1) (W1 := W1) (by rfl) _ _ 25 (by rfl) (by simp only [Act.put, List.setIfInBounds_toArray, List.set_cons_zero, List.set_cons_succ]; rfl) (by simp only [Act.put, List.setIfInBounds_toArray, List.set_cons_zero, List.set_cons_succ]; rfl) (by exact hr) ?_
                    simp only [Act.put, List.setIfInBounds_toArray, List.set_cons_zero, List.set_cons_succ]
                    refine hK.out _ _ ⟨ca, cc, gb, aa1, ac1, x14, x15, x85, x86, x87, (.slice ca ln cc), x89, (.slice (some ⟨gb, 0, none⟩) 1 1), (.slice aa1 (ln + 1) ac1), x92, x93, x94, by simp only [Act.put, List.setIfInBounds_toArray, List.set_cons_zero, List.set_cons_succ], ?_⟩
                    exact ⟨fun h => hF.out.f0 (by simpa using h), fun h => hF.out.f1 (by simpa using h), fun h => hF.out.f2 (by simpa using h), fun h => hF.out.f3 (by simpa using h), fun h => hF.out.f4 (by simpa using h), fun _ => rfl, fun h => by have := HD6.out; simp [this] at h, fun h => hF.out.f7 (by simpa using h), fun h => hF.out.f8 (by simpa using h), fun h => hF.out.f9 (by simpa using h), fun h => hF.out.f10 (by simpa using h), fun h => hF.out.f11 (by simpa using h), fun _ => by simpa using e2, fun _ => by simpa using e4, fun _ => by simp, hB, fun _ h => by simp at h, fun _ h => by simp at h, fun _ => hints⟩
                  · intro d a W hI hd hdep
                    obtain ⟨ca, cc, gb, aa, ac, x14, x15, x85, x86, x87, x88, x89, x90, x91, x92, x93, x94, rfl, hF⟩ := hI
                    have hd0 : d 0 = true := dep_of hdep 0 (by kernel_rfl)
                    have hd5 : d 5 = true := dep_of hdep 5 (by kernel_rfl)
                    obtain rfl := hF.out.f0 hd0
                    obtain rfl := hF.out.f5 hd5
                    have e5 := hd5
                    have hbl := hF.out.bl
                    have hbg := HBG.out W aa ac hbl (hF.out.ap hd5)
                    clear hdep hd hd0 hd5
                    intro K hK
                    simp only [Act.put, List.setIfInBounds_toArray, List.set_cons_zero, List.set_cons_succ]
                    go_simp
                    refine hbg.mono ?_
                    rintro _ W1 ⟨rfl, hB⟩
                    go_simp
                    refine hK.out _ _ ⟨ca, cc, gb, aa, ac, x14, x15, x85, (.agg #[.int .i64 tt, .int .i64 n, .slice ga gm gc]), x87, x88, x89, x90, (.slice aa (ln + 1) ac), (.tuple #[.bool r, .int .i64 0]), x93, x94, by simp only [Act.put, List.setIfInBounds_toArray, List.set_cons_zero, List.set_cons_succ], ?_⟩
                    exact ⟨fun h => hF.out.f0 (by simpa using h), fun h => hF.out.f1 (by simpa using h), fun h => hF.out.f2 (by simpa using h), fun h => hF.out.f3 (by simpa using h), fun h => hF.out.f4 (by simpa using h), fun h => hF.out.f5 (by simpa using h), fun _ => rfl, fun h => hF.out.f7 (by simpa using h), fun h => hF.out.f8 (by simpa using h), fun h => hF.out.f9 (by simpa using h), fun h => hF.out.f10 (by simpa using h), fun h => hF.out.f11 (by simpa using h), fun h => by have := hF.out.o5_2 (by simpa using h); simpa using this, fun h => by have := hF.out.o5_4 (by simpa using h); simpa using this, fun _ => by simpa using e5, hF.out.bl.trans (hB.mono hF.out.bl.size), fun _ k => absurd (e5.symm.trans (by simpa using k : d 5 = false)) (by decide), fun _ k => absurd (e5.symm.trans (by simpa using k : d 5 = false)) (by decide), fun _ => (hF.out.ap e5).below hB⟩
                  · intro d a W hI hd hdep
                    obtain ⟨ca, cc, gb, aa, ac, x14, x15, x85, x86, x87, x88, x89, x90, x91, x92, x93, x94, rfl, hF⟩ := hI
                    have hd6 : d 6 = true := dep_of hdep 6 (by kernel_rfl)
                    obtain rfl := hF.out.f6 hd6
                    clear hdep hd hd6
                    intro K hK
                    simp only [Act.put, List.setIfInBounds_toArray, List.set_cons_zero, List.set_cons_succ]
                    go_simp
                    refine hK.out _ _ ⟨ca, cc, gb, aa, ac, x14, x15, (.tuple #[.bool r, .int .i64 0]), x86, x87, x88, x89, x90, x91, (.tuple #[.bool r, .int .i64 0]), x93, x94, by simp only [Act.put, List.setIfInBounds_toArray, List.set_cons_zero, List.set_cons_succ], ?_⟩
                    exact ⟨fun h => hF.out.f0 (by simpa using h), fun h => hF.out.f1 (by simpa using h), fun h => hF.out.f2 (by simpa using h), fun h => hF.out.f3 (by simpa using h), fun h => hF.out.f4 (by simpa using h), fun h => hF.out.f5 (by simpa using h), fun h => hF.out.f6 (by simpa using h), fun _ => rfl, fun h => hF.out.f8 (by simpa using h), fun h => hF.out.f9 (by simpa using h), fun h => hF.out.f10 (by simpa using h), fun h => hF.out.f11 (by simpa using h), fun h => by have := hF.out.o5_2 (by simpa using h); simpa using this, fun h => by have := hF.out.o5_4 (by simpa using h); simpa using this, fun h => by have := hF.out.o6_5 (by simpa using h); simpa using this, hF.out.bl, fun h k => hF.out.cl (by simpa using h) (by simpa using k), fun h k => hF.out.bs (by simpa using h) (by simpa using k), fun h => hF.out.ap (by simpa using h)⟩
                  · intro d a W hI hd hdep
                    obtain ⟨ca, cc, gb, aa, ac, x14, x15, x85, x86, x87, x88, x89, x90, x91, x92, x93, x94, rfl, hF⟩ := hI
                    have hd7 : d 7 = true := dep_of hdep 7 (by kernel_rfl)
                    obtain rfl := hF.out.f7 hd7
                    clear hdep hd hd7
                    intro K hK
                    simp only [Act.put, List.setIfInBounds_toArray, List.set_cons_zero, List.set_cons_succ]
                    go_simp
                    refine hK.out _ _ ⟨ca, cc, gb, aa, ac, x14, x15, (.tuple #[.bool r, .int .i64 0]), x86, x87, x88, x89, x90, x91, x92, (.bool r), x94, by simp only [Act.put, List.setIfInBounds_toArray, List.set_cons_zero, List.set_cons_succ], ?_⟩
                    exact ⟨fun h => hF.out.f0 (by simpa using h), fun h => hF.out.f1 (by simpa using h), fun h => hF.out.f2 (by simpa using h), fun h => hF.out.f3 (by simpa using h), fun h => hF.out.f4 (by simpa using h), fun h => hF.out.f5 (by simpa using h), fun h => hF.out.f6 (by simpa using h), fun h => hF.out.f7 (by simpa using h), fun _ => rfl, fun h => hF.out.f9 (by simpa using h), fun h => hF.out.f10 (by simpa using h), fun h => hF.out.f11 (by simpa using h), fun h => by have := hF.out.o5_2 (by simpa using h); simpa using this, fun h => by have := hF.out.o5_4 (by simpa using h); simpa using this, fun h => by have := hF.out.o6_5 (by simpa using h); simpa using this, hF.out.bl, fun h k => hF.out.cl (by simpa using h) (by simpa using k), fun h k => hF.out.bs (by simpa using h) (by simpa using k), fun h => hF.out.ap (by simpa using h)⟩
                  · intro d a W hI hd hdep
                    obtain ⟨ca, cc, gb, aa, ac, x14, x15, x85, x86, x87, x88, x89, x90, x91, x92, x93, x94, rfl, hF⟩ := hI
                    have hd7 : d 7 = true := dep_of hdep 7 (by kernel_rfl)
                    obtain rfl := hF.out.f7 hd7
                    clear hdep hd hd7
                    intro K hK
                    simp only [Act.put, List.setIfInBounds_toArray, List.set_cons_zero, List.set_cons_succ]
                    go_simp
                    refine hK.out _ _ ⟨ca, cc, gb, aa, ac, x14, x15, (.tuple #[.bool r, .int .i64 0]), x86, x87, x88, x89, x90, x91, x92, x93, (.int .i64 0), by simp only [Act.put, List.setIfInBounds_toArray, List.set_cons_zero, List.set_cons_succ], ?_⟩
                    exact ⟨fun h => hF.out.f0 (by simpa using h), fun h => hF.out.f1 (by simpa using h), fun h => hF.out.f2 (by simpa using h), fun h => hF.out.f3 (by simpa using h), fun h => hF.out.f4 (by simpa using h), fun h => hF.out.f5 (by simpa using h), fun h => hF.out.f6 (by simpa using h), fun h => hF.out.f7 (by simpa using h), fun h => hF.out.f8 (by simpa using h), fun _ => rfl, fun h => hF.out.f10 (by simpa using h), fun h => hF.out.f11 (by simpa using h), fun h => by have := hF.out.o5_2 (by simpa using h); simpa using this, fun h => by have := hF.out.o5_4 (by simpa using h); simpa using this, fun h => by have := hF.out.o6_5 (by simpa using h); simpa using this, hF.out.bl, fun h k => hF.out.cl (by simpa using h) (by simpa using k), fun h k => hF.out.bs (by simpa using h) (by simpa using k), fun h => hF.out.ap (by simpa using h)⟩
                  · intro d a W hI hd hdep
                    obtain ⟨ca, cc, gb, aa, ac, x14, x15, x85, x86, x87, x88, x89, x90, x91, x92, x93, x94, rfl, hF⟩ := hI
                    have hd8 : d 8 = true := dep_of hdep 8 (by kernel_rfl)
                    obtain rfl := hF.out.f8 hd8
                    clear hdep hd hd8
                    intro K hK
                    simp only [Act.put, List.setIfInBounds_toArray, List.set_cons_zero, List.set_cons_succ]
                    go_simp
                    refine hK.out _ _ ⟨ca, cc, gb, aa, ac, (.bool r), x15, x85, x86, x87, x88, x89, x90, x91, x92, (.bool r), x94, by simp only [Act.put, List.setIfInBounds_toArray, List.set_cons_zero, List.set_cons_succ], ?_⟩
                    exact ⟨fun h => hF.out.f0 (by simpa using h), fun h => hF.out.f1 (by simpa using h), fun h => hF.out.f2 (by simpa using h), fun h => hF.out.f3 (by simpa using h), fun h => hF.out.f4 (by simpa using h), fun h => hF.out.f5 (by simpa using h), fun h => hF.out.f6 (by simpa using h), fun h => hF.out.f7 (by simpa using h), fun h => hF.out.f8 (by simpa using h), fun h => hF.out.f9 (by simpa using h), fun _ => rfl, fun h => hF.out.f11 (by simpa using h), fun h => by have := hF.out.o5_2 (by simpa using h); simpa using this, fun h => by have := hF.out.o5_4 (by simpa using h); simpa using this, fun h => by have := hF.out.o6_5 (by simpa using h); simpa using this, hF.out.bl, fun h k => hF.out.cl (by simpa using h) (by simpa using k), fun h k => hF.out.bs (by simpa using h) (by simpa using k), fun h => hF.out.ap (by simpa using h)⟩
                  · intro d a W hI hd hdep
                    obtain ⟨ca, cc, gb, aa, ac, x14, x15, x85, x86, x87, x88, x89, x90, x91, x92, x93, x94, rfl, hF⟩ := hI
                    have hd9 : d 9 = true := dep_of hdep 9 (by kernel_rfl)
                    obtain rfl := hF.out.f9 hd9
                    clear hdep hd hd9
                    intro K hK
                    simp only [Act.put, List.setIfInBounds_toArray, List.set_cons_zero, List.set_cons_succ]
                    go_simp
                    refine hK.out _ _ ⟨ca, cc, gb, aa, ac, x14, (.int .i64 0), x85, x86, x87, x88, x89, x90, x91, x92, x93, (.int .i64 0), by simp only [Act.put, List.setIfInBounds_toArray, List.set_cons_zero, List.set_cons_succ], ?_⟩
                    exact ⟨fun h => hF.out.f0 (by simpa using h), fun h => hF.out.f1 (by simpa using h), fun h => hF.out.f2 (by simpa using h), fun h => hF.out.f3 (by simpa using h), fun h => hF.out.f4 (by simpa using h), fun h => hF.out.f5 (by simpa using h), fun h => hF.out.f6 (by simpa using h), fun h => hF.out.f7 (by simpa using h), fun h => hF.out.f8 (by simpa using h), fun h => hF.out.f9 (by simpa using h), fun h => hF.out.f10 (by simpa using h), fun _ => rfl, fun h => by have := hF.out.o5_2 (by simpa using h); simpa using this, fun h => by have := hF.out.o5_4 (by simpa using h); simpa using this, fun h => by have := hF.out.o6_5 (by simpa using h); simpa using this, hF.out.bl, fun h k => hF.out.cl (by simpa using h) (by simpa using k), fun h k => hF.out.bs (by simpa using h) (by simpa using k), fun h => hF.out.ap (by simpa using h)⟩
                · intro d a W hI hall
                  obtain ⟨ca, cc, gb, aa, ac, x14, x15, x85, x86, x87, x88, x89, x90, x91, x92, x93, x94, rfl, hF⟩ := hI
                  simp only [List.length_cons, List.length_nil] at hall
                  obtain rfl := hF.out.f0 (hall 0 (by omega))
                  obtain rfl := hF.out.f1 (hall 1 (by omega))
                  obtain rfl := hF.out.f2 (hall 2 (by omega))
                  obtain rfl := hF.out.f3 (hall 3 (by omega))
                  obtain rfl := hF.out.f4 (hall 4 (by omega))
                  obtain rfl := hF.out.f5 (hall 5 (by omega))
                  obtain rfl := hF.out.f6 (hall 6 (by omega))
                  obtain rfl := hF.out.f7 (hall 7 (by omega))
                  obtain rfl := hF.out.f8 (hall 8 (by omega))
                  obtain rfl := hF.out.f9 (hall 9 (by omega))
                  obtain rfl := hF.out.f10 (hall 10 (by omega))
                  obtain rfl := hF.out.f11 (hall 11 (by omega))
                  have HBL : Hid (Below wb.heap.size wb W) := hF.out.bl
                  clear hF hall c0 c1 c2 hgl
                  simp only [Act.put, List.setIfInBounds_toArray, List.set_cons_zero, List.set_cons_succ]
                  have HW : Hid (Below w.heap.size w W ∧ W.heap[w.heap.size]? = some (Obj.cells #[.int .i64 tt, .int .i64 n, .slice ga gm gc] 24)) := ⟨HHb.out.1.trans (HBL.out.mono HHb.out.1.size), tbox_next HHb.out.2 HBL.out⟩
                  have HNB2 : Hid (r = false → ∀ y : Nat, y < k + 1 → cBg tt n ps (ws ++ [(y : Int)]) = false) := fun hr y hy => by
                    by_cases e : y = k
                    · rw [e, HR.out]; exact hr
                    · exact HNB.out y (by omega)
                  cases r with
                  | true =>
                    go_wp2_with fail
                    go_ret
                    exact ⟨by simp, HW.out.1⟩
                  | false =>
                    go_wp2_with fail
                    go_roundw
                    case rel => exact ⟨k + 1, by omega, by go_num, HW, HNB2.out rfl⟩
                    case measure => simp [intOf]; omega
              · obtain rfl : k = tt := by omega
                have HX1 : Hid (1 ≤ x) := by
                  show _ ≤ _
                  have h1 := ckW_zero HCW.out
                  have h2 : x = cnt ps ws 0 0 ws.length := by rw [← HX.out]; unfold cTr; rw [if_pos HCW.out]
                  have h3 : cBg k n ps ws = true := HBT.out
                  rw [h2]
                  refine bgn_end h1.1 (cBg_true h3).2 fun y hy hb => ?_
                  have h4 := HNB.out y hy
                  have h5 : ckW k n ps (ws ++ [(y : Int)]) = 0 := ckW_of h1.1 (by have := HLN.out; rw [List.length_append]; show _ + 1 ≤ 20; omega) (fun z hz => by
                    rw [List.mem_append] at hz
                    rcases hz with hz | hz
                    · exact h1.2.2 z hz
                    · simp at hz; omega)
                  exact cBg_false h4 h5 hb
                have hx2 : (0 : Int) < (x : Int) := by have := HX1.out; omega
                go_wp2_with fail
                go_ret
                exact ⟨by simp; have := HX1.out; omega, HHb.out.1⟩
      · have hxx : (0 : Int) < (x : Int) := by omega
        have HBT : Hid (cBg tt n ps ws = true) := HB.out
        by_cases hl0 : ln = 0
        · have hl1 : ¬ ((0 : Int) < (ln : Int)) := by omega
          have hb20 : ((ln : Int) == 20) = false := by simp; omega
          have hll : ln < 20 := by omega
          have e1 : decide (0 < ln) = false := by simp; omega
          have e2 : decide ((0 : Int) < (ln : Int)) = false := by simp; omega
          have e3 : decide (0 < x) = true := by simp; omega
          have e4 : decide ((0 : Int) < (x : Int)) = true := by simp; omega
          clear hl0 hx0
          have k0 := tcell_blk HH5.out.2 0
          have k1 := tcell_blk HH5.out.2 1
          have k2 := tcell_blk HH5.out.2 2
          simp only [List.getElem?_toArray, List.getElem?_cons_zero, List.getElem?_cons_succ] at k0 k1 k2
          have HLB : Hid (ln ≤ 20) := by show _ ≤ _; omega
          go_wp2_with fail
          clear k0 k1 k2
          try simp only [e1, e2, e3, e4]
          clear e1 e2 e3 e4
          go_loopw [82] (fun i wr => ∃ k : Nat, k ≤ tt ∧ i = .int .i64 (k : Int) ∧ Hid (Below w.heap.size w wr ∧ wr.heap[w.heap.size]? = some (Obj.cells #[.int .i64 tt, .int .i64 n, .slice ga gm gc] 24)) ∧ Hid (∀ y : Nat, y < k → cBg tt n ps (ws ++ [(y : Int)]) = false)) (fun i _ => tt - (intOf i).toNat)
          case atStart => exact ⟨0, by omega, rfl, HH5, fun y hy => by omega⟩
          case round =>
            obtain ⟨k, hk, rfl, HHb, HNB⟩ := hrel
            by_cases hlt : k < tt
            · have HR0 : Hid (ckW tt n ps (ws ++ [(k : Int)]) = 0) := ckW_of (ckW_zero HCW.out).1 (by have := HLN.out; rw [List.length_append]; show _ + 1 ≤ 20; omega) (fun y hy => by
                rw [List.mem_append] at hy
                rcases hy with hy | hy
                · exact (ckW_zero HCW.out).2.2 y hy
                · simp at hy; omega)
              obtain ⟨r, HR⟩ : ∃ r, Hid (cBg tt n ps (ws ++ [(k : Int)]) = r) := ⟨_, (rfl : cBg tt n ps (ws ++ [(k : Int)]) = _)⟩
              have HBG : Hid (∀ W aa ac, Below wr.heap.size wr W → Ints W (.slice aa (ln + 1) ac) (ws ++ [(k : Int)]) → Calls Try.prog 5 #[.agg #[.int .i64 tt, .int .i64 n, .slice ga gm gc], .slice aa (ln + 1) ac] W fun e w' => e = .returned (.tuple #[.bool r, .int .i64 0]) ∧ Below W.heap.size W w') := fun W aa ac hB hi => by
                have := CBegins_any tt n _ _ ps (ws ++ [(k : Int)]) W (HP.out.below (HHb.out.1.trans (hB.mono HHb.out.1.size))) hi
                rw [HR.out, HR0.out] at this; exact this
              have HIB : Hid (Ints wr (.slice la ln lc) ws) := HI.out.below HHb.out.1
              have c0 := tcell_blk HHb.out.2 0
              have c1 := tcell_blk HHb.out.2 1
              have c2 := tcell_blk HHb.out.2 2
              simp only [List.getElem?_toArray, List.getElem?_cons_zero, List.getElem?_cons_succ] at c0 c1 c2
              have hgl : w.heap.size < wr.heap.size := heap_lt3 HHb.out.2
              have hk1 : (k : Int) < (tt : Int) := by omega
              have ht30 : tt ≤ 30 := by have := okTN_le (chk_zero (ckW_zero HCW.out).1).1; omega
              go_upto_region 19 with fail
              obtain ⟨wb, rfl⟩ : ∃ wb, wb = wr := ⟨_, rfl⟩
              try clear hl1
              try clear hxx
              try clear hb20
              try clear hl0
              refine wp_region_free mixed (fun a0 d a W => ∃ (ca : Option Addr) (cc : Nat) (gb : Nat) (aa : Option Addr) (ac : Nat) (x14 x15 x85 x86 x87 x88 x89 x90 x91 x92 x93 x94 : Value), a = ((((((((((((a0.put (some 14) x14).put (some 15) x15).put (some 85) x85).put (some 86) x86).put (some 87) x87).put (some 88) x88).put (some 89) x89).put (some 90) x90).put (some 91) x91).put (some 92) x92).put (some 93) x93).put (some 94) x94) ∧ Hid (RCb wb w.heap.size tt n ga gm gc la ln lc ws (k : Int) r ca cc gb aa ac d x14 x15 x85 x86 x87 x88 x89 x90 x91 x92 x93 x94 W)) (by kernel_rfl) ⟨none, 0, 0, none, 0, u14, u15, u85, u86, u87, u88, u89, u90, u91, u92, u93, u94, by simp only [Act.put, List.setIfInBounds_toArray, List.set_cons_zero, List.set_cons_succ], ?_⟩ ?_ ?_
              · exact ⟨fun h => no_way h, fun h => no_way h, fun h => no_way h, fun h => no_way h, fun h => no_way h, fun h => no_way h, fun h => no_way h, fun h => no_way h, fun h => no_way h, fun h => no_way h, fun h => no_way h, fun h => no_way h, fun h => no_way h, fun h => no_way h, fun h => no_way h, ⟨rfl, rfl, rfl, Nat.le_refl _, fun _ _ => rfl⟩, fun h => no_way h, fun h => no_way h, fun h => no_way h⟩
              · simp only [StepAll, and_true]
                refine ⟨?_, ?_, ?_, ?_, ?_, ?_, ?_, ?_, ?_, ?_, ?_, ?_⟩
                · intro d a W hI hd hdep
                  obtain ⟨ca, cc, gb, aa, ac, x14, x15, x85, x86, x87, x88, x89, x90, x91, x92, x93, x94, rfl, hF⟩ := hI
                  have hbl := hF.out.bl
                  have y0 := (hbl.cell (p := ⟨w.heap.size, 0, none⟩) hgl).trans c0
                  have y1 := (hbl.cell (p := ⟨w.heap.size, 1, none⟩) hgl).trans c1
                  have y2 := (hbl.cell (p := ⟨w.heap.size, 2, none⟩) hgl).trans c2
                  clear hdep hd
                  intro K hK
                  simp only [Act.put, List.setIfInBounds_toArray, List.set_cons_zero, List.set_cons_succ]
                  go_simp
                  refine hK.out _ _ ⟨ca, cc, gb, aa, ac, x14, x15, x85, (.agg #[.int .i64 tt, .int .i64 n, .slice ga gm gc]), x87, x88, x89, x90, x91, x92, x93, x94, by simp only [Act.put, List.setIfInBounds_toArray, List.set_cons_zero, List.set_cons_succ], ?_⟩
                  exact ⟨fun _ => rfl, fun h => hF.out.f1 (by simpa using h), fun h => hF.out.f2 (by simpa using h), fun h => hF.out.f3 (by simpa using h), fun h => hF.out.f4 (by simpa using h), fun h => hF.out.f5 (by simpa using h), fun h => hF.out.f6 (by simpa using h), fun h => hF.out.f7 (by simpa using h), fun h => hF.out.f8 (by simpa using h), fun h => hF.out.f9 (by simpa using h), fun h => hF.out.f10 (by simpa using h), fun h => hF.out.f11 (by simpa using h), fun h => by have := hF.out.o5_2 (by simpa using h); simpa using this, fun h => by have := hF.out.o5_4 (by simpa using h); simpa using this, fun h => by have := hF.out.o6_5 (by simpa using h); simpa using this, hF.out.bl, fun h k => hF.out.cl (by simpa using h) (by simpa using k), fun h k => hF.out.bs (by simpa using h) (by simpa using k), fun h => hF.out.ap (by simpa using h)⟩
                · intro d a W hI hd hdep
                  obtain ⟨ca, cc, gb, aa, ac, x14, x15, x85, x86, x87, x88, x89, x90, x91, x92, x93, x94, rfl, hF⟩ := hI
                  clear hdep hd
                  intro K hK
                  simp only [Act.put, List.setIfInBounds_toArray, List.set_cons_zero, List.set_cons_succ]
                  go_simp
                  refine hK.out _ _ ⟨ca, cc, gb, aa, ac, x14, x15, x85, x86, (.slice la ln lc), x88, x89, x90, x91, x92, x93, x94, by simp only [Act.put, List.setIfInBounds_toArray, List.set_cons_zero, List.set_cons_succ], ?_⟩
                  exact ⟨fun h => hF.out.f0 (by simpa using h), fun _ => rfl, fun h => hF.out.f2 (by simpa using h), fun h => hF.out.f3 (by simpa using h), fun h => hF.out.f4 (by simpa using h), fun h => hF.out.f5 (by simpa using h), fun h => hF.out.f6 (by simpa using h), fun h => hF.out.f7 (by simpa using h), fun h => hF.out.f8 (by simpa using h), fun h => hF.out.f9 (by simpa using h), fun h => hF.out.f10 (by simpa using h), fun h => hF.out.f11 (by simpa using h), fun h => by have := hF.out.o5_2 (by simpa using h); simpa using this, fun h => by have := hF.out.o5_4 (by simpa using h); simpa using this, fun h => by have := hF.out.o6_5 (by simpa using h); simpa using this, hF.out.bl, fun h k => hF.out.cl (by simpa using h) (by simpa using k), fun h k => hF.out.bs (by simpa using h) (by simpa using k), fun h => hF.out.ap (by simpa using h)⟩
                · intro d a W hI hd hdep
                  obtain ⟨ca, cc, gb, aa, ac, x14, x15, x85, x86, x87, x88, x89, x90, x91, x92, x93, x94, rfl, hF⟩ := hI
                  have hd1 : d 1 = true := dep_of hdep 1 (by kernel_rfl)
                  obtain rfl := hF.out.f1 hd1
                  have HD5 : Hid (d 5 = false) := no_later hF.out.o5_2 hd
                  have hbl := hF.out.bl
                  have hcl := clone_ints (.slice la ln lc) ws W (HIB.out.below hbl) (by have := HLB.out; have := HLN.out; omega)
                  rw [HLN.out] at hcl
                  clear hdep hd hd1
                  intro K hK
                  simp only [Act.put, List.setIfInBounds_toArray, List.set_cons_zero, List.set_cons_succ]
                  go_simp
                  refine hcl.mono ?_
                  rintro _ W1 ⟨ca1, cc1, rfl, hown, hB⟩
                  go_simp
                  refine hK.out _ _ ⟨ca1, cc1, gb, aa, ac, x14, x15, x85, x86, (.slice la ln lc), (.slice ca1 ln cc1), x89, x90, x91, x92, x93, x94, by simp only [Act.put, List.setIfInBounds_toArray, List.set_cons_zero, List.set_cons_succ], ?_⟩
                  exact ⟨fun h => hF.out.f0 (by simpa using h), fun h => hF.out.f1 (by simpa using h), fun _ => rfl, fun h => hF.out.f3 (by simpa using h), fun h => hF.out.f4 (by simpa using h), fun h => by have := HD5.out; simp [this] at h, fun h => hF.out.f6 (by simpa using h), fun h => hF.out.f7 (by simpa using h), fun h => hF.out.f8 (by simpa using h), fun h => hF.out.f9 (by simpa using h), fun h => hF.out.f10 (by simpa using h), fun h => hF.out.f11 (by simpa using h), fun _ => by simp, fun h => by have := hF.out.o5_4 (by simpa using h); simpa using this, fun h => by have := hF.out.o6_5 (by simpa using h); simpa using this, hF.out.bl.trans (hB.mono hF.out.bl.size), fun _ _ => own_less hown hbl.size, fun h k => tbox_next (hF.out.bs (by simpa using h) (by simpa using k)) hB, fun h => by have := HD5.out; simp [this] at h⟩
                · intro d a W hI hd hdep
                  obtain ⟨ca, cc, gb, aa, ac, x14, x15, x85, x86, x87, x88, x89, x90, x91, x92, x93, x94, rfl, hF⟩ := hI
                  clear hdep hd
                  intro K hK
                  simp only [Act.put, List.setIfInBounds_toArray, List.set_cons_zero, List.set_cons_succ]
                  go_simp
                  refine hK.out _ _ ⟨ca, cc, gb, aa, ac, x14, x15, x85, x86, x87, x88, (.int .i64 (k : Int)), x90, x91, x92, x93, x94, by simp only [Act.put, List.setIfInBounds_toArray, List.set_cons_zero, List.set_cons_succ], ?_⟩
                  exact ⟨fun h => hF.out.f0 (by simpa using h), fun h => hF.out.f1 (by simpa using h), fun h => hF.out.f2 (by simpa using h), fun _ => rfl, fun h => hF.out.f4 (by simpa using h), fun h => hF.out.f5 (by simpa using h), fun h => hF.out.f6 (by simpa using h), fun h => hF.out.f7 (by simpa using h), fun h => hF.out.f8 (by simpa using h), fun h => hF.out.f9 (by simpa using h), fun h => hF.out.f10 (by simpa using h), fun h => hF.out.f11 (by simpa using h), fun h => by have := hF.out.o5_2 (by simpa using h); simpa using this, fun h => by have := hF.out.o5_4 (by simpa using h); simpa using this, fun h => by have := hF.out.o6_5 (by simpa using h); simpa using this, hF.out.bl, fun h k => hF.out.cl (by simpa using h) (by simpa using k), fun h k => hF.out.bs (by simpa using h) (by simpa using k), fun h => hF.out.ap (by simpa using h)⟩
                · intro d a W hI hd hdep
                  obtain ⟨ca, cc, gb, aa, ac, x14, x15, x85, x86, x87, x88, x89, x90, x91, x92, x93, x94, rfl, hF⟩ := hI
                  have hd3 : d 3 = true := dep_of hdep 3 (by kernel_rfl)
                  obtain rfl := hF.out.f3 hd3
                  have HD5 : Hid (d 5 = false) := no_later hF.out.o5_4 hd
                  have hbl := hF.out.bl
                  have B1 := (Below.refl W.heap.size W).alloc (Nat.le_refl _) (Obj.cells #[.int .i64 (k : Int)] 3)
                  clear hdep hd hd3
                  intro K hK
                  simp only [Act.put, List.setIfInBounds_toArray, List.set_cons_zero, List.set_cons_succ]
                  go_simp
                  refine hK.out _ _ ⟨ca, cc, W.heap.size, aa, ac, x14, x15, x85, x86, x87, x88, (.int .i64 (k : Int)), (.slice (some ⟨W.heap.size, 0, none⟩) 1 1), x91, x92, x93, x94, by simp only [Act.put, List.setIfInBounds_toArray, List.set_cons_zero, List.set_cons_succ], ?_⟩
                  exact ⟨fun h => hF.out.f0 (by simpa using h), fun h => hF.out.f1 (by simpa using h), fun h => hF.out.f2 (by simpa using h), fun h => hF.out.f3 (by simpa using h), fun _ => rfl, fun h => by have := HD5.out; simp [this] at h, fun h => hF.out.f6 (by simpa using h), fun h => hF.out.f7 (by simpa using h), fun h => hF.out.f8 (by simpa using h), fun h => hF.out.f9 (by simpa using h), fun h => hF.out.f10 (by simpa using h), fun h => hF.out.f11 (by simpa using h), fun h => by have := hF.out.o5_2 (by simpa using h); simpa using this, fun _ => by simp, fun h => by have := hF.out.o6_5 (by simpa using h); simpa using this, hF.out.bl.trans (B1.mono hF.out.bl.size), fun h k => own_below (hF.out.cl (by simpa using h) (by simpa using k)) B1, fun _ _ => heap_alloc_new _ _, fun h => by have := HD5.out; simp [this] at h⟩
                · intro d a W hI hd hdep
                  obtain ⟨ca, cc, gb, aa, ac, x14, x15, x85, x86, x87, x88, x89, x90, x91, x92, x93, x94, rfl, hF⟩ := hI
                  have hd2 : d 2 = true := dep_of hdep 2 (by kernel_rfl)
                  have hd4 : d 4 = true := dep_of hdep 4 (by kernel_rfl)
                  obtain rfl := hF.out.f2 hd2
                  obtain rfl := hF.out.f4 hd4
                  have e2 := hd2
                  have e4 := hd4
                  have HD6 : Hid (d 6 = false) := no_later hF.out.o6_5 hd
                  have hrun := app_ints (x := (k : Int)) (by rw [HLN.out]; exact hF.out.cl hd2 hd) hF.out.bl (hF.out.bs hd4 hd) (by have := HLB.out; have := HLN.out; omega)
                  rw [HLN.out] at hrun
                  obtain ⟨aa1, ac1, W1, hr, hints, hB⟩ := hrun
                  clear hdep hd hd2 hd4
                  intro K hK
                  refine tstep_call_append (sv := .slice ca ln cc) (xv := .slice (some ⟨gb, 0, none⟩) 1 1) (v := .slice aa1 (ln + 1) ac1) (W1 := W1) (by rfl) _ _ 25 (by rfl) (by simp only [Act.put, List.setIfInBounds_toArray, List.set_cons_zero, List.set_cons_succ]; rfl) (by simp only [Act.put, List.setIfInBounds_toArray, List.set_cons_zero, List.set_cons_succ]; rfl) (by exact hr) ?_
                  simp only [Act.put, List.setIfInBounds_toArray, List.set_cons_zero, List.set_cons_succ]
                  refine hK.out _ _ ⟨ca, cc, gb, aa1, ac1, x14, x15, x85, x86, x87, (.slice ca ln cc), x89, (.slice (some ⟨gb, 0, none⟩) 1 1), (.slice aa1 (ln + 1) ac1), x92, x93, x94, by simp only [Act.put, List.setIfInBounds_toArray, List.set_cons_zero, List.set_cons_succ], ?_⟩
                  exact ⟨fun h => hF.out.f0 (by simpa using h), fun h => hF.out.f1 (by simpa using h), fun h => hF.out.f2 (by simpa using h), fun h => hF.out.f3 (by simpa using h), fun h => hF.out.f4 (by simpa using h), fun _ => rfl, fun h => by have := HD6.out; simp [this] at h, fun h => hF.out.f7 (by simpa using h), fun h => hF.out.f8 (by simpa using h), fun h => hF.out.f9 (by simpa using h), fun h => hF.out.f10 (by simpa using h), fun h => hF.out.f11 (by simpa using h), fun _ => by simpa using e2, fun _ => by simpa using e4, fun _ => by simp, hB, fun _ h => by simp at h, fun _ h => by simp at h, fun _ => hints⟩
                · intro d a W hI hd hdep
                  obtain ⟨ca, cc, gb, aa, ac, x14, x15, x85, x86, x87, x88, x89, x90, x91, x92, x93, x94, rfl, hF⟩ := hI
                  have hd0 : d 0 = true := dep_of hdep 0 (by kernel_rfl)
                  have hd5 : d 5 = true := dep_of hdep 5 (by kernel_rfl)
                  obtain rfl := hF.out.f0 hd0
                  obtain rfl := hF.out.f5 hd5
                  have e5 := hd5
                  have hbl := hF.out.bl
                  have hbg := HBG.out W aa ac hbl (hF.out.ap hd5)
                  clear hdep hd hd0 hd5
                  intro K hK
                  simp only [Act.put, List.setIfInBounds_toArray, List.set_cons_zero, List.set_cons_succ]
                  go_simp
                  refine hbg.mono ?_
                  rintro _ W1 ⟨rfl, hB⟩
                  go_simp
                  refine hK.out _ _ ⟨ca, cc, gb, aa, ac, x14, x15, x85, (.agg #[.int .i64 tt, .int .i64 n, .slice ga gm gc]), x87, x88, x89, x90, (.slice aa (ln + 1) ac), (.tuple #[.bool r, .int .i64 0]), x93, x94, by simp only [Act.put, List.setIfInBounds_toArray, List.set_cons_zero, List.set_cons_succ], ?_⟩
                  exact ⟨fun h => hF.out.f0 (by simpa using h), fun h => hF.out.f1 (by simpa using h), fun h => hF.out.f2 (by simpa using h), fun h => hF.out.f3 (by simpa using h), fun h => hF.out.f4 (by simpa using h), fun h => hF.out.f5 (by simpa using h), fun _ => rfl, fun h => hF.out.f7 (by simpa using h), fun h => hF.out.f8 (by simpa using h), fun h => hF.out.f9 (by simpa using h), fun h => hF.out.f10 (by simpa using h), fun h => hF.out.f11 (by simpa using h), fun h => by have := hF.out.o5_2 (by simpa using h); simpa using this, fun h => by have := hF.out.o5_4 (by simpa using h); simpa using this, fun _ => by simpa using e5, hF.out.bl.trans (hB.mono hF.out.bl.size), fun _ k => absurd (e5.symm.trans (by simpa using k : d 5 = false)) (by decide), fun _ k => absurd (e5.symm.trans (by simpa using k : d 5 = false)) (by decide), fun _ => (hF.out.ap e5).below hB⟩
                · intro d a W hI hd hdep
                  obtain ⟨ca, cc, gb, aa, ac, x14, x15, x85, x86, x87, x88, x89, x90, x91, x92, x93, x94, rfl, hF⟩ := hI
                  have hd6 : d 6 = true := dep_of hdep 6 (by kernel_rfl)
                  obtain rfl := hF.out.f6 hd6
                  clear hdep hd hd6
                  intro K hK
                  simp only [Act.put, List.setIfInBounds_toArray, List.set_cons_zero, List.set_cons_succ]
                  go_simp
                  refine hK.out _ _ ⟨ca, cc, gb, aa, ac, x14, x15, (.tuple #[.bool r, .int .i64 0]), x86, x87, x88, x89, x90, x91, (.tuple #[.bool r, .int .i64 0]), x93, x94, by simp only [Act.put, List.setIfInBounds_toArray, List.set_cons_zero, List.set_cons_succ], ?_⟩
                  exact ⟨fun h => hF.out.f0 (by simpa using h), fun h => hF.out.f1 (by simpa using h), fun h => hF.out.f2 (by simpa using h), fun h => hF.out.f3 (by simpa using h), fun h => hF.out.f4 (by simpa using h), fun h => hF.out.f5 (by simpa using h), fun h => hF.out.f6 (by simpa using h), fun _ => rfl, fun h => hF.out.f8 (by simpa using h), fun h => hF.out.f9 (by simpa using h), fun h => hF.out.f10 (by simpa using h), fun h => hF.out.f11 (by simpa using h), fun h => by have := hF.out.o5_2 (by simpa using h); simpa using this, fun h => by have := hF.out.o5_4 (by simpa using h); simpa using this, fun h => by have := hF.out.o6_5 (by simpa using h); simpa using this, hF.out.bl, fun h k => hF.out.cl (by simpa using h) (by simpa using k), fun h k => hF.out.bs (by simpa using h) (by simpa using k), fun h => hF.out.ap (by simpa using h)⟩
                · intro d a W hI hd hdep
                  obtain ⟨ca, cc, gb, aa, ac, x14, x15, x85, x86, x87, x88, x89, x90, x91, x92, x93, x94, rfl, hF⟩ := hI
                  have hd7 : d 7 = true := dep_of hdep 7 (by kernel_rfl)
                  obtain rfl := hF.out.f7 hd7
                  clear hdep hd hd7
                  intro K hK
                  simp only [Act.put, List.setIfInBounds_toArray, List.set_cons_zero, List.set_cons_succ]
                  go_simp
                  refine hK.out _ _ ⟨ca, cc, gb, aa, ac, x14, x15, (.tuple #[.bool r, .int .i64 0]), x86, x87, x88, x89, x90, x91, x92, (.bool r), x94, by simp only [Act.put, List.setIfInBounds_toArray, List.set_cons_zero, List.set_cons_succ], ?_⟩
                  exact ⟨fun h => hF.out.f0 (by simpa using h), fun h => hF.out.f1 (by simpa using h), fun h => hF.out.f2 (by simpa using h), fun h => hF.out.f3 (by simpa using h), fun h => hF.out.f4 (by simpa using h), fun h => hF.out.f5 (by simpa using h), fun h => hF.out.f6 (by simpa using h), fun h => hF.out.f7 (by simpa using h), fun _ => rfl, fun h => hF.out.f9 (by simpa using h), fun h => hF.out.f10 (by simpa using h), fun h => hF.out.f11 (by simpa using h), fun h => by have := hF.out.o5_2 (by simpa using h); simpa using this, fun h => by have := hF.out.o5_4 (by simpa using h); simpa using this, fun h => by have := hF.out.o6_5 (by simpa using h); simpa using this, hF.out.bl, fun h k => hF.out.cl (by simpa using h) (by simpa using k), fun h k => hF.out.bs (by simpa using h) (by simpa using k), fun h => hF.out.ap (by simpa using h)⟩
                · intro d a W hI hd hdep
                  obtain ⟨ca, cc, gb, aa, ac, x14, x15, x85, x86, x87, x88, x89, x90, x91, x92, x93, x94, rfl, hF⟩ := hI
                  have hd7 : d 7 = true := dep_of hdep 7 (by kernel_rfl)
                  obtain rfl := hF.out.f7 hd7
                  clear hdep hd hd7
                  intro K hK
                  simp only [Act.put, List.setIfInBounds_toArray, List.set_cons_zero, List.set_cons_succ]
                  go_simp
                  refine hK.out _ _ ⟨ca, cc, gb, aa, ac, x14, x15, (.tuple #[.bool r, .int .i64 0]), x86, x87, x88, x89, x90, x91, x92, x93, (.int .i64 0), by simp only [Act.put, List.setIfInBounds_toArray, List.set_cons_zero, List.set_cons_succ], ?_⟩
                  exact ⟨fun h => hF.out.f0 (by simpa using h), fun h => hF.out.f1 (by simpa using h), fun h => hF.out.f2 (by simpa using h), fun h => hF.out.f3 (by simpa using h), fun h => hF.out.f4 (by simpa using h), fun h => hF.out.f5 (by simpa using h), fun h => hF.out.f6 (by simpa using h), fun h => hF.out.f7 (by simpa using h), fun h => hF.out.f8 (by simpa using h), fun _ => rfl, fun h => hF.out.f10 (by simpa using h), fun h => hF.out.f11 (by simpa using h), fun h => by have := hF.out.o5_2 (by simpa using h); simpa using this, fun h => by have := hF.out.o5_4 (by simpa using h); simpa using this, fun h => by have := hF.out.o6_5 (by simpa using h); simpa using this, hF.out.bl, fun h k => hF.out.cl (by simpa using h) (by simpa using k), fun h k => hF.out.bs (by simpa using h) (by simpa using k), fun h => hF.out.ap (by simpa using h)⟩
                · intro d a W hI hd hdep
                  obtain ⟨ca, cc, gb, aa, ac, x14, x15, x85, x86, x87, x88, x89, x90, x91, x92, x93, x94, rfl, hF⟩ := hI
                  have hd8 : d 8 = true := dep_of hdep 8 (by kernel_rfl)
                  obtain rfl := hF.out.f8 hd8
                  clear hdep hd hd8
                  intro K hK
                  simp only [Act.put, List.setIfInBounds_toArray, List.set_cons_zero, List.set_cons_succ]
                  go_simp
                  refine hK.out _ _ ⟨ca, cc, gb, aa, ac, (.bool r), x15, x85, x86, x87, x88, x89, x90, x91, x92, (.bool r), x94, by simp only [Act.put, List.setIfInBounds_toArray, List.set_cons_zero, List.set_cons_succ], ?_⟩
                  exact ⟨fun h => hF.out.f0 (by simpa using h), fun h => hF.out.f1 (by simpa using h), fun h => hF.out.f2 (by simpa using h), fun h => hF.out.f3 (by simpa using h), fun h => hF.out.f4 (by simpa using h), fun h => hF.out.f5 (by simpa using h), fun h => hF.out.f6 (by simpa using h), fun h => hF.out.f7 (by simpa using h), fun h => hF.out.f8 (by simpa using h), fun h => hF.out.f9 (by simpa using h), fun _ => rfl, fun h => hF.out.f11 (by simpa using h), fun h => by have := hF.out.o5_2 (by simpa using h); simpa using this, fun h => by have := hF.out.o5_4 (by simpa using h); simpa using this, fun h => by have := hF.out.o6_5 (by simpa using h); simpa using this, hF.out.bl, fun h k => hF.out.cl (by simpa using h) (by simpa using k), fun h k => hF.out.bs (by simpa using h) (by simpa using k), fun h => hF.out.ap (by simpa using h)⟩
                · intro d a W hI hd hdep
                  obtain ⟨ca, cc, gb, aa, ac, x14, x15, x85, x86, x87, x88, x89, x90, x91, x92, x93, x94, rfl, hF⟩ := hI
                  have hd9 : d 9 = true := dep_of hdep 9 (by kernel_rfl)
                  obtain rfl := hF.out.f9 hd9
                  clear hdep hd hd9
                  intro K hK
                  simp only [Act.put, List.setIfInBounds_toArray, List.set_cons_zero, List.set_cons_succ]
                  go_simp
                  refine hK.out _ _ ⟨ca, cc, gb, aa, ac, x14, (.int .i64 0), x85, x86, x87, x88, x89, x90, x91, x92, x93, (.int .i64 0), by simp only [Act.put, List.setIfInBounds_toArray, List.set_cons_zero, List.set_cons_succ], ?_⟩
                  exact ⟨fun h => hF.out.f0 (by simpa using h), fun h => hF.out.f1 (by simpa using h), fun h => hF.out.f2 (by simpa using h), fun h => hF.out.f3 (by simpa using h), fun h => hF.out.f4 (by simpa using h), fun h => hF.out.f5 (by simpa using h), fun h => hF.out.f6 (by simpa using h), fun h => hF.out.f7 (by simpa using h), fun h => hF.out.f8 (by simpa using h), fun h => hF.out.f9 (by simpa using h), fun h => hF.out.f10 (by simpa using h), fun _ => rfl, fun h => by have := hF.out.o5_2 (by simpa using h); simpa using this, fun h => by have := hF.out.o5_4 (by simpa using h); simpa using this, fun h => by have := hF.out.o6_5 (by simpa using h); simpa using this, hF.out.bl, fun h k => hF.out.cl (by simpa using h) (by simpa using k), fun h k => hF.out.bs (by simpa using h) (by simpa using k), fun h => hF.out.ap (by simpa using h)⟩
              · intro d a W hI hall
                obtain ⟨ca, cc, gb, aa, ac, x14, x15, x85, x86, x87, x88, x89, x90, x91, x92, x93, x94, rfl, hF⟩ := hI
                simp only [List.length_cons, List.length_nil] at hall
                obtain rfl := hF.out.f0 (hall 0 (by omega))
                obtain rfl := hF.out.f1 (hall 1 (by omega))
                obtain rfl := hF.out.f2 (hall 2 (by omega))
                obtain rfl := hF.out.f3 (hall 3 (by omega))
                obtain rfl := hF.out.f4 (hall 4 (by omega))
                obtain rfl := hF.out.f5 (hall 5 (by omega))
                obtain rfl := hF.out.f6 (hall 6 (by omega))
                obtain rfl := hF.out.f7 (hall 7 (by omega))
                obtain rfl := hF.out.f8 (hall 8 (by omega))
                obtain rfl := hF.out.f9 (hall 9 (by omega))
                obtain rfl := hF.out.f10 (hall 10 (by omega))
                obtain rfl := hF.out.f11 (hall 11 (by omega))
                have HBL : Hid (Below wb.heap.size wb W) := hF.out.bl
                clear hF hall c0 c1 c2 hgl
                simp only [Act.put, List.setIfInBounds_toArray, List.set_cons_zero, List.set_cons_succ]
                have HW : Hid (Below w.heap.size w W ∧ W.heap[w.heap.size]? = some (Obj.cells #[.int .i64 tt, .int .i64 n, .slice ga gm gc] 24)) := ⟨HHb.out.1.trans (HBL.out.mono HHb.out.1.size), tbox_next HHb.out.2 HBL.out⟩
                have HNB2 : Hid (r = false → ∀ y : Nat, y < k + 1 → cBg tt n ps (ws ++ [(y : Int)]) = false) := fun hr y hy => by
                  by_cases e : y = k
                  · rw [e, HR.out]; exact hr
                  · exact HNB.out y (by omega)
                cases r with
                | true =>
                  go_wp2_with fail
                  go_ret
                  exact ⟨by simp, HW.out.1⟩
                | false =>
                  go_wp2_with fail
                  go_roundw
                  case rel => exact ⟨k + 1, by omega, by go_num, HW, HNB2.out rfl⟩
                  case measure => simp [intOf]; omega
            · obtain rfl : k = tt := by omega
              have HX1 : Hid (1 ≤ x) := by
                show _ ≤ _
                have h1 := ckW_zero HCW.out
                have h2 : x = cnt ps ws 0 0 ws.length := by rw [← HX.out]; unfold cTr; rw [if_pos HCW.out]
                have h3 : cBg k n ps ws = true := HBT.out
                rw [h2]
                refine bgn_end h1.1 (cBg_true h3).2 fun y hy hb => ?_
                have h4 := HNB.out y hy
                have h5 : ckW k n ps (ws ++ [(y : Int)]) = 0 := ckW_of h1.1 (by have := HLN.out; rw [List.length_append]; show _ + 1 ≤ 20; omega) (fun z hz => by
                  rw [List.mem_append] at hz
                  rcases hz with hz | hz
                  · exact h1.2.2 z hz
                  · simp at hz; omega)
                exact cBg_false h4 h5 hb
              have hx2 : (0 : Int) < (x : Int) := by have := HX1.out; omega
              go_wp2_with fail
              go_ret
              exact ⟨by simp; have := HX1.out; omega, HHb.out.1⟩
        · have e1 : decide (0 < ln) = true := by simp; omega
          have e2 : decide ((0 : Int) < (ln : Int)) = true := by simp; omega
          have e3 : decide (0 < x) = true := by simp; omega
          have e4 : decide ((0 : Int) < (x : Int)) = true := by simp; omega
          clear hx0
          obtain ⟨bb, oo, rfl, -⟩ : ∃ b o, la = some ⟨b, o, none⟩ ∧ True := by
            obtain ⟨ao', cap', e, -, h | ⟨b, o, h, -⟩⟩ := HI.out
            · rw [h] at e; simp at e; omega
            · simp only [Value.slice.injEq] at e; exact ⟨b, o, by rw [e.1, h], trivial⟩
          have HCT : Hid (ckW tt n ps (ws.take (ln - 1)) = 0) := ckW_of (ckW_zero HCW.out).1 (by have := (ckW_zero HCW.out).2.1; rw [List.length_take]; omega) fun y hy => (ckW_zero HCW.out).2.2 y (List.mem_of_mem_take hy)
          have HBTT : Hid (cBg tt n ps (ws.take (ln - 1)) = true) := by
            exact cBg_of HCT.out (bgn_pre (List.take_prefix _ _) (cBg_true HBT.out).2)
          have HIT : Hid (Ints w (.slice (some ⟨bb, oo, none⟩) (ln - 1) lc) (ws.take (ln - 1))) := by
            obtain ⟨ao', cap', e, hm, h⟩ := HI.out
            simp only [Value.slice.injEq] at e
            obtain ⟨rfl, e1, rfl⟩ := e
            refine ⟨_, _, by rw [List.length_take, ← e1, Nat.min_eq_left (by omega)], by rw [List.length_take]; omega, ?_⟩
            rcases h with h | ⟨b, o, h1, h2, h3⟩
            · left; rw [h]; simp
            · right
              refine ⟨b, o, h1, h2, fun q hq => ?_⟩
              rw [List.length_take] at hq
              rw [List.getElem_take]
              exact h3 q (by omega)
          have HBG : Hid (∀ X : Kp (Sb w5), Calls Try.prog 5 #[.agg #[.int .i64 tt, .int .i64 n, .slice ga gm gc], .slice (some ⟨bb, oo, none⟩) (ln - 1) lc] X.W fun e w' => e = .returned (.tuple #[.bool true, .int .i64 0]) ∧ ∃ Y : Kp (Sb w5), w' = Y.W) := fun X => by
            have hX : Below w.heap.size w X.W := HH5.out.1.trans (X.h.mono HH5.out.1.size)
            have := CBegins_any tt n _ _ ps (ws.take (ln - 1)) X.W (HP.out.below hX) (HIT.out.below hX)
            rw [HCT.out, HBTT.out] at this
            exact Kp.calls X Sb.next this
          have p0 : ∀ X : Kp (Sb w5), X.W.cell? ⟨w.heap.size, 0, none⟩ = some (.int .i64 tt) := fun X => tcell_blk (tbox_next HH5.out.2 X.h) 0
          have p1 : ∀ X : Kp (Sb w5), X.W.cell? ⟨w.heap.size, 1, none⟩ = some (.int .i64 n) := fun X => tcell_blk (tbox_next HH5.out.2 X.h) 1
          have p2 : ∀ X : Kp (Sb w5), X.W.cell? ⟨w.heap.size, 2, none⟩ = some (.slice ga gm gc) := fun X => tcell_blk (tbox_next HH5.out.2 X.h) 2
          have hl1 : (0 : Int) < (ln : Int) := by omega
          have hl2 : ((ln : Int) - 1) = ((ln - 1 : Nat) : Int) := by omega
          have hl3 : (ln : Int) - 1 ≤ (lc : Int) := by omega
          have hl4 : ((ln : Int) - 1).toNat = ln - 1 := by omega
          have hne : Nonempty (Kp (Sb w5)) := ⟨⟨_, Sb.drew w5⟩⟩
          have hq5 : ln ≤ 20 := by have := (ckW_zero HCW.out).2.1; rw [HLN.out] at this; exact this
          go_upto_region 11 with fail
          refine wp_region_kept mixed (by kernel_rfl) (Sb.drew w5) ?_
          repeat (go_big_quiet_step (first | (go_at_call 5; with_reducible exact HBG.out _)))
          refine wpQuiet_nil ?_
          intro w6 hw1
          obtain ⟨⟨w6, HS3⟩, rfl⟩ := hw1
          have HH6 : Hid (Below w.heap.size w w6 ∧ w6.heap[w.heap.size]? = some (Obj.cells #[.int .i64 tt, .int .i64 n, .slice ga gm gc] 24)) := ⟨HH5.out.1.trans (HS3.mono HH5.out.1.size), tbox_next HH5.out.2 HS3⟩
          clear p0 p1 p2 hne HS3 HBG HIT hl1 hl2 hl3 hl4
          by_cases hl20 : ln = 20
          · subst hl20
            go_wp2_with fail
            go_ret
            exact ⟨by simp, HH6.out.1⟩
          · have hb20 : ((ln : Int) == 20) = false := by simp; omega
            have k0 := tcell_blk HH6.out.2 0
            have k1 := tcell_blk HH6.out.2 1
            have k2 := tcell_blk HH6.out.2 2
            simp only [List.getElem?_toArray, List.getElem?_cons_zero, List.getElem?_cons_succ] at k0 k1 k2
            have hll : ln < 20 := by omega
            have HLB : Hid (ln ≤ 20) := by show _ ≤ _; omega
            go_wp2_with fail
            clear k0 k1 k2
            try simp only [e1, e2, e3, e4]
            clear e1 e2 e3 e4
            go_loopw [82] (fun i wr => ∃ k : Nat, k ≤ tt ∧ i = .int .i64 (k : Int) ∧ Hid (Below w.heap.size w wr ∧ wr.heap[w.heap.size]? = some (Obj.cells #[.int .i64 tt, .int .i64 n, .slice ga gm gc] 24)) ∧ Hid (∀ y : Nat, y < k → cBg tt n ps (ws ++ [(y : Int)]) = false)) (fun i _ => tt - (intOf i).toNat)
            case atStart => exact ⟨0, by omega, rfl, HH6, fun y hy => by omega⟩
            case round =>
              obtain ⟨k, hk, rfl, HHb, HNB⟩ := hrel
              by_cases hlt : k < tt
              · have HR0 : Hid (ckW tt n ps (ws ++ [(k : Int)]) = 0) := ckW_of (ckW_zero HCW.out).1 (by have := HLN.out; rw [List.length_append]; show _ + 1 ≤ 20; omega) (fun y hy => by
                  rw [List.mem_append] at hy
                  rcases hy with hy | hy
                  · exact (ckW_zero HCW.out).2.2 y hy
                  · simp at hy; omega)
                obtain ⟨r, HR⟩ : ∃ r, Hid (cBg tt n ps (ws ++ [(k : Int)]) = r) := ⟨_, (rfl : cBg tt n ps (ws ++ [(k : Int)]) = _)⟩
                have HBG : Hid (∀ W aa ac, Below wr.heap.size wr W → Ints W (.slice aa (ln + 1) ac) (ws ++ [(k : Int)]) → Calls Try.prog 5 #[.agg #[.int .i64 tt, .int .i64 n, .slice ga gm gc], .slice aa (ln + 1) ac] W fun e w' => e = .returned (.tuple #[.bool r, .int .i64 0]) ∧ Below W.heap.size W w') := fun W aa ac hB hi => by
                  have := CBegins_any tt n _ _ ps (ws ++ [(k : Int)]) W (HP.out.below (HHb.out.1.trans (hB.mono HHb.out.1.size))) hi
                  rw [HR.out, HR0.out] at this; exact this
                have HIB : Hid (Ints wr (.slice (some ⟨bb, oo, none⟩) ln lc) ws) := HI.out.below HHb.out.1
                have c0 := tcell_blk HHb.out.2 0
                have c1 := tcell_blk HHb.out.2 1
                have c2 := tcell_blk HHb.out.2 2
                simp only [List.getElem?_toArray, List.getElem?_cons_zero, List.getElem?_cons_succ] at c0 c1 c2
                have hgl : w.heap.size < wr.heap.size := heap_lt3 HHb.out.2
                have hk1 : (k : Int) < (tt : Int) := by omega
                have ht30 : tt ≤ 30 := by have := okTN_le (chk_zero (ckW_zero HCW.out).1).1; omega
                go_upto_region 19 with fail
                obtain ⟨wb, rfl⟩ : ∃ wb, wb = wr := ⟨_, rfl⟩
                try clear hl1
                try clear hxx
                try clear hb20
                try clear hl0
                refine wp_region_free mixed (fun a0 d a W => ∃ (ca : Option Addr) (cc : Nat) (gb : Nat) (aa : Option Addr) (ac : Nat) (x14 x15 x85 x86 x87 x88 x89 x90 x91 x92 x93 x94 : Value), a = ((((((((((((a0.put (some 14) x14).put (some 15) x15).put (some 85) x85).put (some 86) x86).put (some 87) x87).put (some 88) x88).put (some 89) x89).put (some 90) x90).put (some 91) x91).put (some 92) x92).put (some 93) x93).put (some 94) x94) ∧ Hid (RCb wb w.heap.size tt n ga gm gc (some ⟨bb, oo, none⟩) ln lc ws (k : Int) r ca cc gb aa ac d x14 x15 x85 x86 x87 x88 x89 x90 x91 x92 x93 x94 W)) (by kernel_rfl) ⟨none, 0, 0, none, 0, u14, u15, u85, u86, u87, u88, u89, u90, u91, u92, u93, u94, by simp only [Act.put, List.setIfInBounds_toArray, List.set_cons_zero, List.set_cons_succ], ?_⟩ ?_ ?_
                · exact ⟨fun h => no_way h, fun h => no_way h, fun h => no_way h, fun h => no_way h, fun h => no_way h, fun h => no_way h, fun h => no_way h, fun h => no_way h, fun h => no_way h, fun h => no_way h, fun h => no_way h, fun h => no_way h, fun h => no_way h, fun h => no_way h, fun h => no_way h, ⟨rfl, rfl, rfl, Nat.le_refl _, fun _ _ => rfl⟩, fun h => no_way h, fun h => no_way h, fun h => no_way h⟩
                · simp only [StepAll, and_true]
                  refine ⟨?_, ?_, ?_, ?_, ?_, ?_, ?_, ?_, ?_, ?_, ?_, ?_⟩
                  · intro d a W hI hd hdep
                    obtain ⟨ca, cc, gb, aa, ac, x14, x15, x85, x86, x87, x88, x89, x90, x91, x92, x93, x94, rfl, hF⟩ := hI
                    have hbl := hF.out.bl
                    have y0 := (hbl.cell (p := ⟨w.heap.size, 0, none⟩) hgl).trans c0
                    have y1 := (hbl.cell (p := ⟨w.heap.size, 1, none⟩) hgl).trans c1
                    have y2 := (hbl.cell (p := ⟨w.heap.size, 2, none⟩) hgl).trans c2
                    clear hdep hd
                    intro K hK
                    simp only [Act.put, List.setIfInBounds_toArray, List.set_cons_zero, List.set_cons_succ]
                    go_simp
                    refine hK.out _ _ ⟨ca, cc, gb, aa, ac, x14, x15, x85, (.agg #[.int .i64 tt, .int .i64 n, .slice ga gm gc]), x87, x88, x89, x90, x91, x92, x93, x94, by simp only [Act.put, List.setIfInBounds_toArray, List.set_cons_zero, List.set_cons_succ], ?_⟩
                    exact ⟨fun _ => rfl, fun h => hF.out.f1 (by simpa using h), fun h => hF.out.f2 (by simpa using h), fun h => hF.out.f3 (by simpa using h), fun h => hF.out.f4 (by simpa using h), fun h => hF.out.f5 (by simpa using h), fun h => hF.out.f6 (by simpa using h), fun h => hF.out.f7 (by simpa using h), fun h => hF.out.f8 (by simpa using h), fun h => hF.out.f9 (by simpa using h), fun h => hF.out.f10 (by simpa using h), fun h => hF.out.f11 (by simpa using h), fun h => by have := hF.out.o5_2 (by simpa using h); simpa using this, fun h => by have := hF.out.o5_4 (by simpa using h); simpa using this, fun h => by have := hF.out.o6_5 (by simpa using h); simpa using this, hF.out.bl, fun h k => hF.out.cl (by simpa using h) (by simpa using k), fun h k => hF.out.bs (by simpa using h) (by simpa using k), fun h => hF.out.ap (by simpa using h)⟩
                  · intro d a W hI hd hdep
                    obtain ⟨ca, cc, gb, aa, ac, x14, x15, x85, x86, x87, x88, x89, x90, x91, x92, x93, x94, rfl, hF⟩ := hI
                    clear hdep hd
                    intro K hK
                    simp only [Act.put, List.setIfInBounds_toArray, List.set_cons_zero, List.set_cons_succ]
                    go_simp
                    refine hK.out _ _ ⟨ca, cc, gb, aa, ac, x14, x15, x85, x86, (.slice (some ⟨bb, oo, none⟩) ln lc), x88, x89, x90, x91, x92, x93, x94, by simp only [Act.put, List.setIfInBounds_toArray, List.set_cons_zero, List.set_cons_succ], ?_⟩
                    exact ⟨fun h => hF.out.f0 (by simpa using h), fun _ => rfl, fun h => hF.out.f2 (by simpa using h), fun h => hF.out.f3 (by simpa using h), fun h => hF.out.f4 (by simpa using h), fun h => hF.out.f5 (by simpa using h), fun h => hF.out.f6 (by simpa using h), fun h => hF.out.f7 (by simpa using h), fun h => hF.out.f8 (by simpa using h), fun h => hF.out.f9 (by simpa using h), fun h => hF.out.f10 (by simpa using h), fun h => hF.out.f11 (by simpa using h), fun h => by have := hF.out.o5_2 (by simpa using h); simpa using this, fun h => by have := hF.out.o5_4 (by simpa using h); simpa using this, fun h => by have := hF.out.o6_5 (by simpa using h); simpa using this, hF.out.bl, fun h k => hF.out.cl (by simpa using h) (by simpa using k), fun h k => hF.out.bs (by simpa using h) (by simpa using k), fun h => hF.out.ap (by simpa using h)⟩
                  · intro d a W hI hd hdep
                    obtain ⟨ca, cc, gb, aa, ac, x14, x15, x85, x86, x87, x88, x89, x90, x91, x92, x93, x94, rfl, hF⟩ := hI
                    have hd1 : d 1 = true := dep_of hdep 1 (by kernel_rfl)
                    obtain rfl := hF.out.f1 hd1
                    have HD5 : Hid (d 5 = false) := no_later hF.out.o5_2 hd
                    have hbl := hF.out.bl
                    have hcl := clone_ints (.slice (some ⟨bb, oo, none⟩) ln lc) ws W (HIB.out.below hbl) (by have := HLB.out; have := HLN.out; omega)
                    rw [HLN.out] at hcl
                    clear hdep hd hd1
                    intro K hK
                    simp only [Act.put, List.setIfInBounds_toArray, List.set_cons_zero, List.set_cons_succ]
                    go_simp
                    refine hcl.mono ?_
                    rintro _ W1 ⟨ca1, cc1, rfl, hown, hB⟩
                    go_simp
                    refine hK.out _ _ ⟨ca1, cc1, gb, aa, ac, x14, x15, x85, x86, (.slice (some ⟨bb, oo, none⟩) ln lc), (.slice ca1 ln cc1), x89, x90, x91, x92, x93, x94, by simp only [Act.put, List.setIfInBounds_toArray, List.set_cons_zero, List.set_cons_succ], ?_⟩
                    exact ⟨fun h => hF.out.f0 (by simpa using h), fun h => hF.out.f1 (by simpa using h), fun _ => rfl, fun h => hF.out.f3 (by simpa using h), fun h => hF.out.f4 (by simpa using h), fun h => by have := HD5.out; simp [this] at h, fun h => hF.out.f6 (by simpa using h), fun h => hF.out.f7 (by simpa using h), fun h => hF.out.f8 (by simpa using h), fun h => hF.out.f9 (by simpa using h), fun h => hF.out.f10 (by simpa using h), fun h => hF.out.f11 (by simpa using h), fun _ => by simp, fun h => by have := hF.out.o5_4 (by simpa using h); simpa using this, fun h => by have := hF.out.o6_5 (by simpa using h); simpa using this, hF.out.bl.trans (hB.mono hF.out.bl.size), fun _ _ => own_less hown hbl.size, fun h k => tbox_next (hF.out.bs (by simpa using h) (by simpa using k)) hB, fun h => by have := HD5.out; simp [this] at h⟩
                  · intro d a W hI hd hdep
                    obtain ⟨ca, cc, gb, aa, ac, x14, x15, x85, x86, x87, x88, x89, x90, x91, x92, x93, x94, rfl, hF⟩ := hI
                    clear hdep hd
                    intro K hK
                    simp only [Act.put, List.setIfInBounds_toArray, List.set_cons_zero, List.set_cons_succ]
                    go_simp
                    refine hK.out _ _ ⟨ca, cc, gb, aa, ac, x14, x15, x85, x86, x87, x88, (.int .i64 (k : Int)), x90, x91, x92, x93, x94, by simp only [Act.put, List.setIfInBounds_toArray, List.set_cons_zero, List.set_cons_succ], ?_⟩
                    exact ⟨fun h => hF.out.f0 (by simpa using h), fun h => hF.out.f1 (by simpa using h), fun h => hF.out.f2 (by simpa using h), fun _ => rfl, fun h => hF.out.f4 (by simpa using h), fun h => hF.out.f5 (by simpa using h), fun h => hF.out.f6 (by simpa using h), fun h => hF.out.f7 (by simpa using h), fun h => hF.out.f8 (by simpa using h), fun h => hF.out.f9 (by simpa using h), fun h => hF.out.f10 (by simpa using h), fun h => hF.out.f11 (by simpa using h), fun h => by have := hF.out.o5_2 (by simpa using h); simpa using this, fun h => by have := hF.out.o5_4 (by simpa using h); simpa using this, fun h => by have := hF.out.o6_5 (by simpa using h); simpa using this, hF.out.bl, fun h k => hF.out.cl (by simpa using h) (by simpa using k), fun h k => hF.out.bs (by simpa using h) (by simpa using k), fun h => hF.out.ap (by simpa using h)⟩
                  · intro d a W hI hd hdep
                    obtain ⟨ca, cc, gb, aa, ac, x14, x15, x85, x86, x87, x88, x89, x90, x91, x92, x93, x94, rfl, hF⟩ := hI
                    have hd3 : d 3 = true := dep_of hdep 3 (by kernel_rfl)
                    obtain rfl := hF.out.f3 hd3
                    have HD5 : Hid (d 5 = false) := no_later hF.out.o5_4 hd
                    have hbl := hF.out.bl
                    have B1 := (Below.refl W.heap.size W).alloc (Nat.le_refl _) (Obj.cells #[.int .i64 (k : Int)] 3)
                    clear hdep hd hd3
                    intro K hK
                    simp only [Act.put, List.setIfInBounds_toArray, List.set_cons_zero, List.set_cons_succ]
                    go_simp
                    refine hK.out _ _ ⟨ca, cc, W.heap.size, aa, ac, x14, x15, x85, x86, x87, x88, (.int .i64 (k : Int)), (.slice (some ⟨W.heap.size, 0, none⟩) 1 1), x91, x92, x93, x94, by simp only [Act.put, List.setIfInBounds_toArray, List.set_cons_zero, List.set_cons_succ], ?_⟩
                    exact ⟨fun h => hF.out.f0 (by simpa using h), fun h => hF.out.f1 (by simpa using h), fun h => hF.out.f2 (by simpa using h), fun h => hF.out.f3 (by simpa using h), fun _ => rfl, fun h => by have := HD5.out; simp [this] at h, fun h => hF.out.f6 (by simpa using h), fun h => hF.out.f7 (by simpa using h), fun h => hF.out.f8 (by simpa using h), fun h => hF.out.f9 (by simpa using h), fun h => hF.out.f10 (by simpa using h), fun h => hF.out.f11 (by simpa using h), fun h => by have := hF.out.o5_2 (by simpa using h); simpa using this, fun _ => by simp, fun h => by have := hF.out.o6_5 (by simpa using h); simpa using this, hF.out.bl.trans (B1.mono hF.out.bl.size), fun h k => own_below (hF.out.cl (by simpa using h) (by simpa using k)) B1, fun _ _ => heap_alloc_new _ _, fun h => by have := HD5.out; simp [this] at h⟩
                  · intro d a W hI hd hdep
                    obtain ⟨ca, cc, gb, aa, ac, x14, x15, x85, x86, x87, x88, x89, x90, x91, x92, x93, x94, rfl, hF⟩ := hI
                    have hd2 : d 2 = true := dep_of hdep 2 (by kernel_rfl)
                    have hd4 : d 4 = true := dep_of hdep 4 (by kernel_rfl)
                    obtain rfl := hF.out.f2 hd2
                    obtain rfl := hF.out.f4 hd4
                    have e2 := hd2
                    have e4 := hd4
                    have HD6 : Hid (d 6 = false) := no_later hF.out.o6_5 hd
                    have hrun := app_ints (x := (k : Int)) (by rw [HLN.out]; exact hF.out.cl hd2 hd) hF.out.bl (hF.out.bs hd4 hd) (by have := HLB.out; have := HLN.out; omega)
                    rw [HLN.out] at hrun
                    obtain ⟨aa1, ac1, W1, hr, hints, hB⟩ := hrun
                    clear hdep hd hd2 hd4
                    intro K hK
                    refine tstep_call_append (sv := .slice ca ln cc) (xv := .slice (some ⟨gb, 0, none⟩) 1 1) (v := .slice aa1 (ln + 1) ac1) (W1 := W1) (by rfl) _ _ 25 (by rfl) (by simp only [Act.put, List.setIfInBounds_toArray, List.set_cons_zero, List.set_cons_succ]; rfl) (by simp only [Act.put, List.setIfInBounds_toArray, List.set_cons_zero, List.set_cons_succ]; rfl) (by exact hr) ?_
                    simp only [Act.put, List.setIfInBounds_toArray, List.set_cons_zero, List.set_cons_succ]
                    refine hK.out _ _ ⟨ca, cc, gb, aa1, ac1, x14, x15, x85, x86, x87, (.slice ca ln cc), x89, (.slice (some ⟨gb, 0, none⟩) 1 1), (.slice aa1 (ln + 1) ac1), x92, x93, x94, by simp only [Act.put, List.setIfInBounds_toArray, List.set_cons_zero, List.set_cons_succ], ?_⟩
                    exact ⟨fun h => hF.out.f0 (by simpa using h), fun h => hF.out.f1 (by simpa using h), fun h => hF.out.f2 (by simpa using h), fun h => hF.out.f3 (by simpa using h), fun h => hF.out.f4 (by simpa using h), fun _ => rfl, fun h => by have := HD6.out; simp [this] at h, fun h => hF.out.f7 (by simpa using h), fun h => hF.out.f8 (by simpa using h), fun h => hF.out.f9 (by simpa using h), fun h => hF.out.f10 (by simpa using h), fun h => hF.out.f11 (by simpa using h), fun _ => by simpa using e2, fun _ => by simpa using e4, fun _ => by simp, hB, fun _ h => by simp at h, fun _ h => by simp at h, fun _ => hints⟩
                  · intro d a W hI hd hdep
                    obtain ⟨ca, cc, gb, aa, ac, x14, x15, x85, x86, x87, x88, x89, x90, x91, x92, x93, x94, rfl, hF⟩ := hI
                    have hd0 : d 0 = true := dep_of hdep 0 (by kernel_rfl)
                    have hd5 : d 5 = true := dep_of hdep 5 (by kernel_rfl)
                    obtain rfl := hF.out.f0 hd0
                    obtain rfl := hF.out.f5 hd5
                    have e5 := hd5
                    have hbl := hF.out.bl
                    have hbg := HBG.out W aa ac hbl (hF.out.ap hd5)
                    clear hdep hd hd0 hd5
                    intro K hK
                    simp only [Act.put, List.setIfInBounds_toArray, List.set_cons_zero, List.set_cons_succ]
                    go_simp
                    refine hbg.mono ?_
                    rintro _ W1 ⟨rfl, hB⟩
                    go_simp
                    refine hK.out _ _ ⟨ca, cc, gb, aa, ac, x14, x15, x85, (.agg #[.int .i64 tt, .int .i64 n, .slice ga gm gc]), x87, x88, x89, x90, (.slice aa (ln + 1) ac), (.tuple #[.bool r, .int .i64 0]), x93, x94, by simp only [Act.put, List.setIfInBounds_toArray, List.set_cons_zero, List.set_cons_succ], ?_⟩
                    exact ⟨fun h => hF.out.f0 (by simpa using h), fun h => hF.out.f1 (by simpa using h), fun h => hF.out.f2 (by simpa using h), fun h => hF.out.f3 (by simpa using h), fun h => hF.out.f4 (by simpa using h), fun h => hF.out.f5 (by simpa using h), fun _ => rfl, fun h => hF.out.f7 (by simpa using h), fun h => hF.out.f8 (by simpa using h), fun h => hF.out.f9 (by simpa using h), fun h => hF.out.f10 (by simpa using h), fun h => hF.out.f11 (by simpa using h), fun h => by have := hF.out.o5_2 (by simpa using h); simpa using this, fun h => by have := hF.out.o5_4 (by simpa using h); simpa using this, fun _ => by simpa using e5, hF.out.bl.trans (hB.mono hF.out.bl.size), fun _ k => absurd (e5.symm.trans (by simpa using k : d 5 = false)) (by decide), fun _ k => absurd (e5.symm.trans (by simpa using k : d 5 = false)) (by decide), fun _ => (hF.out.ap e5).below hB⟩
                  · intro d a W hI hd hdep
                    obtain ⟨ca, cc, gb, aa, ac, x14, x15, x85, x86, x87, x88, x89, x90, x91, x92, x93, x94, rfl, hF⟩ := hI
                    have hd6 : d 6 = true := dep_of hdep 6 (by kernel_rfl)
                    obtain rfl := hF.out.f6 hd6
                    clear hdep hd hd6
                    intro K hK
                    simp only [Act.put, List.setIfInBounds_toArray, List.set_cons_zero, List.set_cons_succ]
                    go_simp
                    refine hK.out _ _ ⟨ca, cc, gb, aa, ac, x14, x15, (.tuple #[.bool r, .int .i64 0]), x86, x87, x88, x89, x90, x91, (.tuple #[.bool r, .int .i64 0]), x93, x94, by simp only [Act.put, List.setIfInBounds_toArray, List.set_cons_zero, List.set_cons_succ], ?_⟩
                    exact ⟨fun h => hF.out.f0 (by simpa using h), fun h => hF.out.f1 (by simpa using h), fun h => hF.out.f2 (by simpa using h), fun h => hF.out.f3 (by simpa using h), fun h => hF.out.f4 (by simpa using h), fun h => hF.out.f5 (by simpa using h), fun h => hF.out.f6 (by simpa using h), fun _ => rfl, fun h => hF.out.f8 (by simpa using h), fun h => hF.out.f9 (by simpa using h), fun h => hF.out.f10 (by simpa using h), fun h => hF.out.f11 (by simpa using h), fun h => by have := hF.out.o5_2 (by simpa using h); simpa using this, fun h => by have := hF.out.o5_4 (by simpa using h); simpa using this, fun h => by have := hF.out.o6_5 (by simpa using h); simpa using this, hF.out.bl, fun h k => hF.out.cl (by simpa using h) (by simpa using k), fun h k => hF.out.bs (by simpa using h) (by simpa using k), fun h => hF.out.ap (by simpa using h)⟩
                  · intro d a W hI hd hdep
                    obtain ⟨ca, cc, gb, aa, ac, x14, x15, x85, x86, x87, x88, x89, x90, x91, x92, x93, x94, rfl, hF⟩ := hI
                    have hd7 : d 7 = true := dep_of hdep 7 (by kernel_rfl)
                    obtain rfl := hF.out.f7 hd7
                    clear hdep hd hd7
                    intro K hK
                    simp only [Act.put, List.setIfInBounds_toArray, List.set_cons_zero, List.set_cons_succ]
                    go_simp
                    refine hK.out _ _ ⟨ca, cc, gb, aa, ac, x14, x15, (.tuple #[.bool r, .int .i64 0]), x86, x87, x88, x89, x90, x91, x92, (.bool r), x94, by simp only [Act.put, List.setIfInBounds_toArray, List.set_cons_zero, List.set_cons_succ], ?_⟩
                    exact ⟨fun h => hF.out.f0 (by simpa using h), fun h => hF.out.f1 (by simpa using h), fun h => hF.out.f2 (by simpa using h), fun h => hF.out.f3 (by simpa using h), fun h => hF.out.f4 (by simpa using h), fun h => hF.out.f5 (by simpa using h), fun h => hF.out.f6 (by simpa using h), fun h => hF.out.f7 (by simpa using h), fun _ => rfl, fun h => hF.out.f9 (by simpa using h), fun h => hF.out.f10 (by simpa using h), fun h => hF.out.f11 (by simpa using h), fun h => by have := hF.out.o5_2 (by simpa using h); simpa using this, fun h => by have := hF.out.o5_4 (by simpa using h); simpa using this, fun h => by have := hF.out.o6_5 (by simpa using h); simpa using this, hF.out.bl, fun h k => hF.out.cl (by simpa using h) (by simpa using k), fun h k => hF.out.bs (by simpa using h) (by simpa using k), fun h => hF.out.ap (by simpa using h)⟩
                  · intro d a W hI hd hdep
                    obtain ⟨ca, cc, gb, aa, ac, x14, x15, x85, x86, x87, x88, x89, x90, x91, x92, x93, x94, rfl, hF⟩ := hI
                    have hd7 : d 7 = true := dep_of hdep 7 (by kernel_rfl)
                    obtain rfl := hF.out.f7 hd7
                    clear hdep hd hd7
                    intro K hK
                    simp only [Act.put, List.setIfInBounds_toArray, List.set_cons_zero, List.set_cons_succ]
                    go_simp
                    refine hK.out _ _ ⟨ca, cc, gb, aa, ac, x14, x15, (.tuple #[.bool r, .int .i64 0]), x86, x87, x88, x89, x90, x91, x92, x93, (.int .i64 0), by simp only [Act.put, List.setIfInBounds_toArray, List.set_cons_zero, List.set_cons_succ], ?_⟩
                    exact ⟨fun h => hF.out.f0 (by simpa using h), fun h => hF.out.f1 (by simpa using h), fun h => hF.out.f2 (by simpa using h), fun h => hF.out.f3 (by simpa using h), fun h => hF.out.f4 (by simpa using h), fun h => hF.out.f5 (by simpa using h), fun h => hF.out.f6 (by simpa using h), fun h => hF.out.f7 (by simpa using h), fun h => hF.out.f8 (by simpa using h), fun _ => rfl, fun h => hF.out.f10 (by simpa using h), fun h => hF.out.f11 (by simpa using h), fun h => by have := hF.out.o5_2 (by simpa using h); simpa using this, fun h => by have := hF.out.o5_4 (by simpa using h); simpa using this, fun h => by have := hF.out.o6_5 (by simpa using h); simpa using this, hF.out.bl, fun h k => hF.out.cl (by simpa using h) (by simpa using k), fun h k => hF.out.bs (by simpa using h) (by simpa using k), fun h => hF.out.ap (by simpa using h)⟩
                  · intro d a W hI hd hdep
                    obtain ⟨ca, cc, gb, aa, ac, x14, x15, x85, x86, x87, x88, x89, x90, x91, x92, x93, x94, rfl, hF⟩ := hI
                    have hd8 : d 8 = true := dep_of hdep 8 (by kernel_rfl)
                    obtain rfl := hF.out.f8 hd8
                    clear hdep hd hd8
                    intro K hK
                    simp only [Act.put, List.setIfInBounds_toArray, List.set_cons_zero, List.set_cons_succ]
                    go_simp
                    refine hK.out _ _ ⟨ca, cc, gb, aa, ac, (.bool r), x15, x85, x86, x87, x88, x89, x90, x91, x92, (.bool r), x94, by simp only [Act.put, List.setIfInBounds_toArray, List.set_cons_zero, List.set_cons_succ], ?_⟩
                    exact ⟨fun h => hF.out.f0 (by simpa using h), fun h => hF.out.f1 (by simpa using h), fun h => hF.out.f2 (by simpa using h), fun h => hF.out.f3 (by simpa using h), fun h => hF.out.f4 (by simpa using h), fun h => hF.out.f5 (by simpa using h), fun h => hF.out.f6 (by simpa using h), fun h => hF.out.f7 (by simpa using h), fun h => hF.out.f8 (by simpa using h), fun h => hF.out.f9 (by simpa using h), fun _ => rfl, fun h => hF.out.f11 (by simpa using h), fun h => by have := hF.out.o5_2 (by simpa using h); simpa using this, fun h => by have := hF.out.o5_4 (by simpa using h); simpa using this, fun h => by have := hF.out.o6_5 (by simpa using h); simpa using this, hF.out.bl, fun h k => hF.out.cl (by simpa using h) (by simpa using k), fun h k => hF.out.bs (by simpa using h) (by simpa using k), fun h => hF.out.ap (by simpa using h)⟩
                  · intro d a W hI hd hdep
                    obtain ⟨ca, cc, gb, aa, ac, x14, x15, x85, x86, x87, x88, x89, x90, x91, x92, x93, x94, rfl, hF⟩ := hI
                    have hd9 : d 9 = true := dep_of hdep 9 (by kernel_rfl)
                    obtain rfl := hF.out.f9 hd9
                    clear hdep hd hd9
                    intro K hK
                    simp only [Act.put, List.setIfInBounds_toArray, List.set_cons_zero, List.set_cons_succ]
                    go_simp
                    refine hK.out _ _ ⟨ca, cc, gb, aa, ac, x14, (.int .i64 0), x85, x86, x87, x88, x89, x90, x91, x92, x93, (.int .i64 0), by simp only [Act.put, List.setIfInBounds_toArray, List.set_cons_zero, List.set_cons_succ], ?_⟩
                    exact ⟨fun h => hF.out.f0 (by simpa using h), fun h => hF.out.f1 (by simpa using h), fun h => hF.out.f2 (by simpa using h), fun h => hF.out.f3 (by simpa using h), fun h => hF.out.f4 (by simpa using h), fun h => hF.out.f5 (by simpa using h), fun h => hF.out.f6 (by simpa using h), fun h => hF.out.f7 (by simpa using h), fun h => hF.out.f8 (by simpa using h), fun h => hF.out.f9 (by simpa using h), fun h => hF.out.f10 (by simpa using h), fun _ => rfl, fun h => by have := hF.out.o5_2 (by simpa using h); simpa using this, fun h => by have := hF.out.o5_4 (by simpa using h); simpa using this, fun h => by have := hF.out.o6_5 (by simpa using h); simpa using this, hF.out.bl, fun h k => hF.out.cl (by simpa using h) (by simpa using k), fun h k => hF.out.bs (by simpa using h) (by simpa using k), fun h => hF.out.ap (by simpa using h)⟩
                · intro d a W hI hall
                  obtain ⟨ca, cc, gb, aa, ac, x14, x15, x85, x86, x87, x88, x89, x90, x91, x92, x93, x94, rfl, hF⟩ := hI
                  simp only [List.length_cons, List.length_nil] at hall
                  obtain rfl := hF.out.f0 (hall 0 (by omega))
                  obtain rfl := hF.out.f1 (hall 1 (by omega))
                  obtain rfl := hF.out.f2 (hall 2 (by omega))
                  obtain rfl := hF.out.f3 (hall 3 (by omega))
                  obtain rfl := hF.out.f4 (hall 4 (by omega))
                  obtain rfl := hF.out.f5 (hall 5 (by omega))
                  obtain rfl := hF.out.f6 (hall 6 (by omega))
                  obtain rfl := hF.out.f7 (hall 7 (by omega))
                  obtain rfl := hF.out.f8 (hall 8 (by omega))
                  obtain rfl := hF.out.f9 (hall 9 (by omega))
                  obtain rfl := hF.out.f10 (hall 10 (by omega))
                  obtain rfl := hF.out.f11 (hall 11 (by omega))
                  have HBL : Hid (Below wb.heap.size wb W) := hF.out.bl
                  clear hF hall c0 c1 c2 hgl
                  simp only [Act.put, List.setIfInBounds_toArray, List.set_cons_zero, List.set_cons_succ]
                  have HW : Hid (Below w.heap.size w W ∧ W.heap[w.heap.size]? = some (Obj.cells #[.int .i64 tt, .int .i64 n, .slice ga gm gc] 24)) := ⟨HHb.out.1.trans (HBL.out.mono HHb.out.1.size), tbox_next HHb.out.2 HBL.out⟩
                  have HNB2 : Hid (r = false → ∀ y : Nat, y < k + 1 → cBg tt n ps (ws ++ [(y : Int)]) = false) := fun hr y hy => by
                    by_cases e : y = k
                    · rw [e, HR.out]; exact hr
                    · exact HNB.out y (by omega)
                  cases r with
                  | true =>
                    go_wp2_with fail
                    go_ret
                    exact ⟨by simp, HW.out.1⟩
                  | false =>
                    go_wp2_with fail
                    go_roundw
                    case rel => exact ⟨k + 1, by omega, by go_num, HW, HNB2.out rfl⟩
                    case measure => simp [intOf]; omega
              · obtain rfl : k = tt := by omega
                have HX1 : Hid (1 ≤ x) := by
                  show _ ≤ _
                  have h1 := ckW_zero HCW.out
                  have h2 : x = cnt ps ws 0 0 ws.length := by rw [← HX.out]; unfold cTr; rw [if_pos HCW.out]
                  have h3 : cBg k n ps ws = true := HBT.out
                  rw [h2]
                  refine bgn_end h1.1 (cBg_true h3).2 fun y hy hb => ?_
                  have h4 := HNB.out y hy
                  have h5 : ckW k n ps (ws ++ [(y : Int)]) = 0 := ckW_of h1.1 (by have := HLN.out; rw [List.length_append]; show _ + 1 ≤ 20; omega) (fun z hz => by
                    rw [List.mem_append] at hz
                    rcases hz with hz | hz
                    · exact h1.2.2 z hz
                    · simp at hz; omega)
                  exact cBg_false h4 h5 hb
                have hx2 : (0 : Int) < (x : Int) := by have := HX1.out; omega
                go_wp2_with fail
                go_ret
                exact ⟨by simp; have := HX1.out; omega, HHb.out.1⟩
    | false =>
      have HX0 : Hid (x = 0) := by
        show _ = _
        have h2 : x = cnt ps ws 0 0 ws.length := by rw [← HX.out]; unfold cTr; rw [if_pos HCW.out]
        rcases Nat.eq_zero_or_pos x with h | h
        · exact h
        · exfalso
          exact cBg_false HB.out HCW.out (cnt_bgn (by omega))
      obtain rfl : x = 0 := HX0.out
      by_cases hl0 : ln = 0
      · have hl1 : ¬ ((0 : Int) < (ln : Int)) := by omega
        go_wp2_with fail
        go_ret
        exact ⟨by simp, HH5.out.1⟩
      · obtain ⟨bb, oo, rfl, -⟩ : ∃ b o, la = some ⟨b, o, none⟩ ∧ True := by
          obtain ⟨ao', cap', e, -, h | ⟨b, o, h, -⟩⟩ := HI.out
          · rw [h] at e; simp at e; omega
          · simp only [Value.slice.injEq] at e; exact ⟨b, o, by rw [e.1, h], trivial⟩
        have HCT : Hid (ckW tt n ps (ws.take (ln - 1)) = 0) := ckW_of (ckW_zero HCW.out).1 (by have := (ckW_zero HCW.out).2.1; rw [List.length_take]; omega) fun y hy => (ckW_zero HCW.out).2.2 y (List.mem_of_mem_take hy)
        obtain ⟨rb, HBTT⟩ : ∃ rb, Hid (cBg tt n ps (ws.take (ln - 1)) = rb) := ⟨_, (rfl : cBg tt n ps (ws.take (ln - 1)) = _)⟩
        have HIT : Hid (Ints w (.slice (some ⟨bb, oo, none⟩) (ln - 1) lc) (ws.take (ln - 1))) := by
          obtain ⟨ao', cap', e, hm, h⟩ := HI.out
          simp only [Value.slice.injEq] at e
          obtain ⟨rfl, e1, rfl⟩ := e
          refine ⟨_, _, by rw [List.length_take, ← e1, Nat.min_eq_left (by omega)], by rw [List.length_take]; omega, ?_⟩
          rcases h with h | ⟨b, o, h1, h2, h3⟩
          · left; rw [h]; simp
          · right
            refine ⟨b, o, h1, h2, fun q hq => ?_⟩
            rw [List.length_take] at hq
            rw [List.getElem_take]
            exact h3 q (by omega)
        have HBG : Hid (∀ X : Kp (Sb w5), Calls Try.prog 5 #[.agg #[.int .i64 tt, .int .i64 n, .slice ga gm gc], .slice (some ⟨bb, oo, none⟩) (ln - 1) lc] X.W fun e w' => e = .returned (.tuple #[.bool rb, .int .i64 0]) ∧ ∃ Y : Kp (Sb w5), w' = Y.W) := fun X => by
          have hX : Below w.heap.size w X.W := HH5.out.1.trans (X.h.mono HH5.out.1.size)
          have := CBegins_any tt n _ _ ps (ws.take (ln - 1)) X.W (HP.out.below hX) (HIT.out.below hX)
          rw [HCT.out, HBTT.out] at this
          exact Kp.calls X Sb.next this
        have p0 : ∀ X : Kp (Sb w5), X.W.cell? ⟨w.heap.size, 0, none⟩ = some (.int .i64 tt) := fun X => tcell_blk (tbox_next HH5.out.2 X.h) 0
        have p1 : ∀ X : Kp (Sb w5), X.W.cell? ⟨w.heap.size, 1, none⟩ = some (.int .i64 n) := fun X => tcell_blk (tbox_next HH5.out.2 X.h) 1
        have p2 : ∀ X : Kp (Sb w5), X.W.cell? ⟨w.heap.size, 2, none⟩ = some (.slice ga gm gc) := fun X => tcell_blk (tbox_next HH5.out.2 X.h) 2
        have hl1 : (0 : Int) < (ln : Int) := by omega
        have hl2 : ((ln : Int) - 1) = ((ln - 1 : Nat) : Int) := by omega
        have hl3 : (ln : Int) - 1 ≤ (lc : Int) := by omega
        have hl4 : ((ln : Int) - 1).toNat = ln - 1 := by omega
        have hne : Nonempty (Kp (Sb w5)) := ⟨⟨_, Sb.drew w5⟩⟩
        have hq5 : ln ≤ 20 := by have := (ckW_zero HCW.out).2.1; rw [HLN.out] at this; exact this
        go_upto_region 11 with fail
        refine wp_region_kept mixed (by kernel_rfl) (Sb.drew w5) ?_
        repeat (go_big_quiet_step (first | (go_at_call 5; with_reducible exact HBG.out _)))
        refine wpQuiet_nil ?_
        intro w6 hw1
        obtain ⟨⟨w6, HS3⟩, rfl⟩ := hw1
        have HH6 : Hid (Below w.heap.size w w6 ∧ w6.heap[w.heap.size]? = some (Obj.cells #[.int .i64 tt, .int .i64 n, .slice ga gm gc] 24)) := ⟨HH5.out.1.trans (HS3.mono HH5.out.1.size), tbox_next HH5.out.2 HS3⟩
        clear p0 p1 p2 hne HS3 HBG HIT hl1 hl2 hl3 hl4
        go_wp2_with fail
        go_ret
        exact ⟨by simp, HH6.out.1⟩
  · obtain rfl : bg = false := by
      rw [← HB.out]; unfold cBg; simp; intro h; rw [HCW.out] at h; exact absurd h hz
    have hb0 : (cw != 0) = true := by simp; exact hz
    have hb1 : (cw == cw) = true := by simp
    go_wp2_with fail
    go_ret
    exact ⟨by simp, HH5.out.1⟩

/-! ### What the walk gives, for every argument -/
set_option maxRecDepth 100000 in
theorem contract (H : Type) (enc : TypeId × Value → H) (W : World) (base : Nat) (args : Array Value) (ds gs : List (DataW H)) (before : List MemPlace)
    (hval : ∀ (j : Nat) t v, Try.f3.params[j]? = some t → args[j]? = some v → Value.okWide Try.prog W .any base t v)
    (hW : DataW.Whole enc Try.prog Try.f3.params.toList Rows.countBeginsSpec.vars false W args.toList ds gs before) (hsz : (DataW.weightsEach Try.prog (Try.f3.params.toList ++ Rows.countBeginsSpec.plain.varTypes Try.prog) (ds ++ gs)).all (· ≤ reachBytes) = true) :
    Calls Try.prog 3 args W fun e W' => ∃ v, e = .returned v ∧ Rows.countBeginsSpec.post enc Try.prog Try.f3 false true false false W args v W' := by
  have hW' := hW
  obtain ⟨p, q, hA0, hV, rfl, hfz, hnd⟩ := hW
  have hA : DataW.TrodAll enc Try.prog W 0 (fun _ => true) true Try.f3.params.toList args.toList ds p := hA0
  rw [Try.params3] at hA hval hsz
  obtain ⟨v0, vs0, d0, ds0, p0, q0, hargs, rfl, rfl, h0, r0⟩ := trodAll_cons hA
  obtain ⟨v1, vs1, d1, ds1, p1, q1, rfl, rfl, rfl, h1, r1⟩ := trodAll_cons r0
  obtain ⟨rfl, rfl, rfl⟩ := trodAll_nil r1
  obtain rfl : args = #[v0, v1] := by cases args; simp_all
  obtain ⟨rfl, rfl⟩ := trodVars_none hV
  have k0 := h0
  have lt0 : ∀ x ∈ p0, x.block < W.heap.size := by obtain ⟨m, hm⟩ := k0; exact DataW.trod_lt m _ _ _ hm
  obtain ⟨a0t, a0n, a0s, a0p, rfl, w0s⟩ := open_gram (hval 0 24 v0 rfl rfl) h0
  have k1 := h1
  have lt1 : ∀ x ∈ p1, x.block < W.heap.size := by obtain ⟨m, hm⟩ := k1; exact DataW.trod_lt m _ _ _ hm
  obtain ⟨a1l, w1s⟩ := open_intsw (hval 1 25 v1 rfl rfl) h1
  clear hA0
  refine (walk a0t a0n a0s a0p _ a1l W w0s w1s).mono fun e W' ⟨he, bel⟩ => ?_
  subst he
  exact ⟨_, rfl, _, _, _, [], _, [], hW', trodAll_mk1 (shut_bool Try.underlying4 _), (trodAll_cons_mk (Below.trod laidOut (by kernel_rfl) (of_decide_eq_true (by kernel_rfl)) k0 bel lt0) (trodAll_cons_mk (Below.trod laidOut (by kernel_rfl) (of_decide_eq_true (by kernel_rfl)) k1 bel lt1) trodAll_mk0)), rfl, bel.frame _, fun h => by cases h⟩

/-! ### The row's step -/
set_option maxRecDepth 100000 in
theorem lifted (os : Os) (started : os.Started) (H : Type) (enc : TypeId × Value → H) :
    ReturnsInHanded {} Try.checked os 3 .any (Rows.countBeginsSpec.pre6 enc Try.prog Try.f3 Rows.countBeginsRow.domain false) (Rows.countBeginsSpec.post enc Try.prog Try.f3 false true false false) := by
  refine returnsInHanded_of_change_sized (C := Try.checked) own started (by kernel_rfl) Try.func3
    (ChangeSpec.witness6 (enc := enc) (C := Try.checked) false ⟨#[], #[.agg #[.int .i64 0, .int .i64 0, .slice none 0 0], .slice none 0 0], []⟩ 8 (by kernel_rfl) (by kernel_rfl) (by kernel_rfl) (by kernel_rfl)) ?_
  intro W base args ds gs before hval hW hcnd hsz _
  exact contract H enc W base args ds gs before hval hW hsz

theorem over : Rows.countBeginsRow.holds Try.pinned (OpenSpec.ofChange Rows.countBeginsSpec) :=
  OpenClaim.holds_of_wide 3 Try.f3 rfl rfl rfl rfl rfl rfl rfl ⟨rfl, rfl, rfl, rfl, rfl⟩ rfl rfl rfl rfl rfl (by kernel_rfl) Try.func3 (by kernel_rfl)
    (of_decide_eq_true (by kernel_rfl)) (by unfold Func.isWrapper; first | (rw [if_pos (by decide +kernel)]; kernel_rfl) | (rw [if_neg (by decide +kernel)]; exact ⟨rfl, rfl⟩))
    (fun os started H enc _ => lifted os started H enc)

end Go.Proofs.Ytmcmidfpglhnmab.countBegins
namespace Go.Proofs.Ytmcmidfpglhnmab
/-- The given statement. -/
theorem countBegins_holds : Rows.CountBeginsSaid := countBegins.over
#print axioms countBegins_holds
end Go.Proofs.Ytmcmidfpglhnmab
