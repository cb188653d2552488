/-
  The contract of count.Only: the only tree, or why there is none.
-/
import Derived.Test.YtpfehghicaaghaaChTre
namespace Go.Proofs.Ytpfehghicaaghaa
open Go.RowKit
open Cg

/-- What Only holds: its grammar's box and its result's. -/
structure On (w : World) (t n : Int) (pv : Value) (ps : List Pd) (W : World) : Prop where
  gb : Gb w w.heap.size t n pv ps W
  rs : W.heap[w.heap.size + 1]? = some (.cells #[.int .i64 0, .int .i64 0, .slice none 0 0] 32)
theorem On.next {w : World} {t n : Int} {pv : Value} {ps : List Pd} {W W' : World} (h : On w t n pv ps W) (hb : Below W.heap.size W W') : On w t n pv ps W' := ⟨h.gb.next hb, tbox_next h.rs hb⟩
theorem cnt_two {ps : List Pd} {ws : List Int} {a : Int} {i j : Nat} : cnt ps ws a i j ≤ 2 := cc_le _
theorem tx_zero {W : World} {P : Nat → Prop} : Tx W P (.agg #[.int .i64 0, .int .i64 0, .slice none 0 0]) (.mk 0 0 []) := .mk 0 0 none 0 [] (fun _ => undef) (by simp) (Or.inl rfl) (fun i hi => absurd hi (Nat.not_lt_zero _))

def OnP (w : World) (t n : Int) (ps : List Pd) (ws : List Int) (e : Ending) (w' : World) : Prop := ∃ p k a m c er xo, e = .returned (.tuple #[.agg #[.int .i64 p, .int .i64 k, .slice a m c], .int .i64 er]) ∧ OlQ t n ps ws er xo ∧ Tx w' (fun b => w.heap.size ≤ b) (.agg #[.int .i64 p, .int .i64 k, .slice a m c]) xo ∧ Below w.heap.size w w'
set_option maxHeartbeats 8000000 in
set_option maxRecDepth 20000 in
theorem Only_any (t n : Int) (pv wv : Value) (ps : List Pd) (ws : List Int) (w : World) (hp : Pds w pv ps) (hw : Ints w wv ws) :
    Calls Try.prog 10 #[.agg #[.int .i64 t, .int .i64 n, pv], wv] w fun e w' => OnP w t n ps ws e w' := by
  have HO0 : Hid (On w t n pv ps ((w.alloc (Obj.cells #[.int .i64 t, .int .i64 n, pv] 24)).alloc (.cells #[.int .i64 0, .int .i64 0, .slice none 0 0] 32))) := by
    refine ⟨(Gb.box hp t n).next (below_alloc _ _), ?_⟩
    have := heap_alloc2_new w (.cells #[.int .i64 t, .int .i64 n, pv] 24) (.cells #[.int .i64 0, .int .i64 0, .slice none 0 0] 32)
    simpa using this
  have HI : Hid (Ints w wv ws) := hw
  obtain ⟨ga, gc, rfl, -, -⟩ := hp
  obtain ⟨wao, wc, rfl, hwm, -⟩ := hw
  obtain ⟨ce, HCE⟩ : ∃ ce, Hid (ckW t n ps ws = ce) := ⟨_, (rfl : ckW t n ps ws = _)⟩
  obtain ⟨gm, HGM⟩ : ∃ gm, Hid (ps.length = gm) := ⟨_, (rfl : ps.length = _)⟩
  obtain ⟨wm, HWM⟩ : ∃ wm, Hid (ws.length = wm) := ⟨_, (rfl : ws.length = _)⟩
  rw [HGM.out] at HO0 ⊢
  rw [HWM.out] at HI ⊢
  go_enter Try.func10, Try.ntmps10
  go_upto_region 1 with fail
  generalize (w.alloc (Obj.cells #[.int .i64 t, .int .i64 n, .slice ga gm gc] 24)).alloc (.cells #[.int .i64 0, .int .i64 0, .slice none 0 0] 32) = w1 at HO0 ⊢
  obtain ⟨g, HGG⟩ : ∃ g, Hid (w.heap.size = g) := ⟨_, (rfl : w.heap.size = _)⟩
  rw [HGG.out]
  have HG0 : Hid (Gb w g t n (.slice ga gm gc) ps w1) := by rw [← HGG.out]; exact HO0.out.gb
  have c0 := HG0.out.c0
  have c1 := HG0.out.c1
  have c2 := HG0.out.c2
  have hc := check_any t n _ _ ps ws w1 HG0.out.pds (HI.out.below HG0.out.below)
  rw [HCE.out] at hc
  go_wp2_with fail
  refine hc.mono ?_
  rintro _ w2 ⟨rfl, hb2⟩
  have HO2 : Hid (On w t n (.slice ga gm gc) ps w2) := HO0.out.next hb2
  clear hc hb2 c0 c1 c2 HG0 HO0
  by_cases hz : ce = 0
  · subst hz
    have HG2 : Hid (Gb w g t n (.slice ga gm gc) ps w2) := by rw [← HGG.out]; exact HO2.out.gb
    have c0 := HG2.out.c0
    have c1 := HG2.out.c1
    have c2 := HG2.out.c2
    obtain ⟨hn, hrc, hrg⟩ := rc_of HG2.out.pds (HI.out.below HG2.out.below) HCE.out
    generalize n.toNat = nn at hn hrc hrg
    subst hn
    have hcall := chartOf_any t nn _ _ ps ws false w2 hrc
    have HRC : Hid (Rc w2 t nn (.slice ga gm gc) (.slice wao wm wc) ps ws) := hrc
    clear hrg hrc
    go_wp2_with fail
    refine hcall.mono ?_
    rintro _ w3 ⟨y, rfl, N, B, hch, hls, hbv⟩
    have HB23 : Hid (Below w2.heap.size w2 w3) := hch.bel
    have HO3 : Hid (On w t nn (.slice ga gm gc) ps w3) := HO2.out.next HB23.out
    have hn2 : N 0 0 ws.length ≤ 2 := by
      rw [hls.fix 0 0 ws.length (by omega) (by omega)]; exact stm_le
    have HCH3 : Hid (Ch w2 y t nn (.slice ga gm gc) (.slice wao wm wc) ps ws false N B w3) := hch
    have HNT : Hid (Nt ps ws false N B) := nt_of HRC.out.kd hls hbv
    have hwh := whole_any3 w2 y t nn _ _ ps ws false N B w3 HRC.out hch hn2
    have hrx : N 0 0 ws.length = cnt ps ws 0 0 ws.length := by
      exact lst_cnt HRC.out.kd hls 0 0 ws.length
    rw [hrx] at hwh hn2
    obtain ⟨r, HRR⟩ : ∃ r, Hid (cnt ps ws 0 0 ws.length = r) := ⟨_, (rfl : cnt ps ws 0 0 ws.length = _)⟩
    rw [HRR.out] at hwh hn2
    clear hrx hcall hch hls hbv c0 c1 c2
    go_wp2_with fail
    refine hwh.mono ?_
    rintro _ w4 ⟨rfl, hb4⟩
    have HCH4 : Hid (Ch w2 y t nn (.slice ga gm gc) (.slice wao wm wc) ps ws false N B w4) := HCH3.out.next hb4
    have HO4 : Hid (On w t nn (.slice ga gm gc) ps w4) := HO3.out.next hb4
    clear hwh hb4 HCH3 HO3 HO2 HG2
    have hr3 : r = 0 ∨ r = 1 ∨ r = 2 := by omega
    rcases hr3 with rfl | rfl | rfl
    · have HR9 := HO4.out.rs
      have HBW : Hid (Below w.heap.size w w4) := HO4.out.gb.below
      rw [HGG.out] at HR9
      have HV := rs3_blk HR9 (.int .i64 0) (.int .i64 0) (.slice none 0 0)
      have HBF : Hid (Below w.heap.size w (rs3 w4 (g + 1) (.int .i64 0) (.int .i64 0) (.slice none 0 0))) := ((HBW.out.setCell (p := ⟨g + 1, 0, none⟩) (by have := HGG.out; show _ ≤ g + 1; omega) _).setCell (p := ⟨g + 1, 1, none⟩) (by have := HGG.out; show _ ≤ g + 1; omega) _).setCell (p := ⟨g + 1, 2, none⟩) (by have := HGG.out; show _ ≤ g + 1; omega) _
      have r0 := tcell_blk HR9 0
      have r1 := tcell_blk HR9 1
      have r2 := tcell_blk HR9 2
      have f0 := tfrozen_blk HR9 0
      have f1 := tfrozen_blk HR9 1
      have f2 := tfrozen_blk HR9 2
      simp only [List.getElem?_toArray, List.getElem?_cons_zero, List.getElem?_cons_succ] at r0 r1 r2
      go_wp2_with fail
      rw [← rs3_eq]
      generalize rs3 w4 (g + 1) (.int .i64 0) (.int .i64 0) (.slice none 0 0) = w9 at *
      have z0 := tcell_blk HV 0
      have z1 := tcell_blk HV 1
      have z2 := tcell_blk HV 2
      simp only [List.getElem?_toArray, List.getElem?_cons_zero, List.getElem?_cons_succ] at z0 z1 z2
      exact bodyPost_ret (v := .tuple #[.agg #[.int .i64 0, .int .i64 0, .slice none 0 0], .int .i64 17]) (by simp [results, Try.results10, go_sem, z0, z1, z2]) rfl ⟨_, _, _, _, _, _, (.mk 0 0 []), rfl, Or.inr ⟨HCE.out, Or.inl ⟨HRR.out, rfl, rfl⟩⟩, tx_zero, HBF.out⟩
    · have h1 : cc (fun t => Sp ps ws t (2, 0) 0 ws.length) = 1 := HRR.out
      obtain ⟨x, hx, hu⟩ := one_of h1
      clear h1
      have htr := tree_any w2 y t nn _ _ ps ws false N B HRC.out HNT.out x hx hu w4 HCH4.out
      have HX : Hid (Sp ps ws x (2, 0) 0 ws.length ∧ ∀ z, Sp ps ws z (2, 0) 0 ws.length → z = x) := ⟨hx, hu⟩
      clear hx hu
      simp only [Int.natCast_one]
      go_wp2_with fail
      refine htr.mono ?_
      rintro _ w5 ⟨p, k, a, m, c, rfl, htx, hb5⟩
      have HO5 : Hid (On w t nn (.slice ga gm gc) ps (w5.alloc (.cells #[.int .i64 p, .int .i64 k, .slice a m c] 32))) := (HO4.out.next hb5).next (below_alloc _ _)
      have HT5 : Hid (Tx (w5.alloc (.cells #[.int .i64 p, .int .i64 k, .slice a m c] 32)) (fun b => w4.heap.size ≤ b) (.agg #[.int .i64 p, .int .i64 k, .slice a m c]) (cutT 1000 x).2) := htx.bel (below_alloc _ _)
      have HX5 : Hid ((w5.alloc (.cells #[.int .i64 p, .int .i64 k, .slice a m c] 32)).heap[w5.heap.size]? = some (.cells #[.int .i64 p, .int .i64 k, .slice a m c] 32)) := heap_alloc_new _ _
      have HS4 : Hid (w.heap.size + 2 ≤ w4.heap.size) := by have := heap_lt3 HO4.out.rs; show _ ≤ _; omega
      clear htr htx hb5 HO4 HCH4
      go_upto_region 11 with fail
      obtain ⟨w6, HW6⟩ : ∃ w6, Hid (w5.alloc (.cells #[.int .i64 p, .int .i64 k, .slice a m c] 32) = w6) := ⟨_, (rfl : w5.alloc (.cells #[.int .i64 p, .int .i64 k, .slice a m c] 32) = _)⟩
      rw [HW6.out] at HO5 HT5 HX5 ⊢
      obtain ⟨xb, HXB⟩ : ∃ xb, Hid (w5.heap.size = xb) := ⟨_, (rfl : w5.heap.size = _)⟩
      rw [HXB.out] at HX5 ⊢
      clear HW6 HXB
      have HG5 : Hid (Gb w g t nn (.slice ga gm gc) ps w6) := by rw [← HGG.out]; exact HO5.out.gb
      have c0 := HG5.out.c0
      have c1 := HG5.out.c1
      have c2 := HG5.out.c2
      have x0 := tcell_blk HX5.out 0
      have x1 := tcell_blk HX5.out 1
      have x2 := tcell_blk HX5.out 2
      simp only [List.getElem?_toArray, List.getElem?_cons_zero, List.getElem?_cons_succ] at x0 x1 x2
      have hck := TCheck_any t nn _ ps _ _ _ w6 HG5.out.pds HT5.out
      rw [errT_cut] at hck
      obtain ⟨er, HER⟩ : ∃ er, Hid (errT t nn ps x = er) := ⟨_, (rfl : errT t nn ps x = _)⟩
      rw [HER.out] at hck
      go_wp2_with fail
      refine hck.mono ?_
      rintro _ w7 ⟨rfl, hb7⟩
      have HO7 : Hid (On w t nn (.slice ga gm gc) ps w7) := HO5.out.next hb7
      have HX7 : Hid (w7.heap[xb]? = some (.cells #[.int .i64 p, .int .i64 k, .slice a m c] 32)) := tbox_next HX5.out hb7
      have HT7 : Hid (Tx w7 (fun b => w4.heap.size ≤ b) (.agg #[.int .i64 p, .int .i64 k, .slice a m c]) (cutT 1000 x).2) := HT5.out.bel hb7
      clear hck hb7 c0 c1 c2 x0 x1 x2 HO5 HX5 HT5 HG5
      by_cases he : er = 0
      · subst he
        have x0 := tcell_blk HX7.out 0
        have x1 := tcell_blk HX7.out 1
        have x2 := tcell_blk HX7.out 2
        simp only [List.getElem?_toArray, List.getElem?_cons_zero, List.getElem?_cons_succ] at x0 x1 x2
        have HTW : Hid (Tx (rs3 w7 (g + 1) (.int .i64 p) (.int .i64 k) (.slice a m c)) (fun b => w.heap.size ≤ b) (.agg #[.int .i64 p, .int .i64 k, .slice a m c]) x) := by
          have h0 := HT7.out
          rw [cut_fits HER.out] at h0
          refine (h0.next (fun b _ hp => ?_) (by simp [rs3, World.setCell])).mono fun b _ hp => (by have hp2 : w4.heap.size ≤ b := hp; have := HS4.out; show w.heap.size ≤ b; omega)
          have hp2 : w4.heap.size ≤ b := hp
          have h1 := HS4.out
          have h2 := HGG.out
          unfold rs3
          rw [Below.heap_setCell _ _ _ _ (by simp; omega), Below.heap_setCell _ _ _ _ (by simp; omega), Below.heap_setCell _ _ _ _ (by simp; omega)]
        have HR9 := HO7.out.rs
        have HBW : Hid (Below w.heap.size w w7) := HO7.out.gb.below
        rw [HGG.out] at HR9
        have HV := rs3_blk HR9 (.int .i64 p) (.int .i64 k) (.slice a m c)
        have HBF : Hid (Below w.heap.size w (rs3 w7 (g + 1) (.int .i64 p) (.int .i64 k) (.slice a m c))) := ((HBW.out.setCell (p := ⟨g + 1, 0, none⟩) (by have := HGG.out; show _ ≤ g + 1; omega) _).setCell (p := ⟨g + 1, 1, none⟩) (by have := HGG.out; show _ ≤ g + 1; omega) _).setCell (p := ⟨g + 1, 2, none⟩) (by have := HGG.out; show _ ≤ g + 1; omega) _
        have r0 := tcell_blk HR9 0
        have r1 := tcell_blk HR9 1
        have r2 := tcell_blk HR9 2
        have f0 := tfrozen_blk HR9 0
        have f1 := tfrozen_blk HR9 1
        have f2 := tfrozen_blk HR9 2
        simp only [List.getElem?_toArray, List.getElem?_cons_zero, List.getElem?_cons_succ] at r0 r1 r2
        go_wp2_with fail
        rw [← rs3_eq]
        generalize rs3 w7 (g + 1) (.int .i64 p) (.int .i64 k) (.slice a m c) = w9 at *
        have z0 := tcell_blk HV 0
        have z1 := tcell_blk HV 1
        have z2 := tcell_blk HV 2
        simp only [List.getElem?_toArray, List.getElem?_cons_zero, List.getElem?_cons_succ] at z0 z1 z2
        exact bodyPost_ret (v := .tuple #[.agg #[.int .i64 p, .int .i64 k, .slice a m c], .int .i64 0]) (by simp [results, Try.results10, go_sem, z0, z1, z2]) rfl ⟨_, _, _, _, _, _, x, rfl, Or.inr ⟨HCE.out, Or.inr (Or.inr ⟨HRR.out, x, HX.out.1, HX.out.2, HER.out.symm, by simp⟩)⟩, HTW.out, HBF.out⟩
      · have hb : (er != 0) = true := by simp; exact he
        have HR9 := HO7.out.rs
        have HBW : Hid (Below w.heap.size w w7) := HO7.out.gb.below
        rw [HGG.out] at HR9
        have HV := rs3_blk HR9 (.int .i64 0) (.int .i64 0) (.slice none 0 0)
        have HBF : Hid (Below w.heap.size w (rs3 w7 (g + 1) (.int .i64 0) (.int .i64 0) (.slice none 0 0))) := ((HBW.out.setCell (p := ⟨g + 1, 0, none⟩) (by have := HGG.out; show _ ≤ g + 1; omega) _).setCell (p := ⟨g + 1, 1, none⟩) (by have := HGG.out; show _ ≤ g + 1; omega) _).setCell (p := ⟨g + 1, 2, none⟩) (by have := HGG.out; show _ ≤ g + 1; omega) _
        have r0 := tcell_blk HR9 0
        have r1 := tcell_blk HR9 1
        have r2 := tcell_blk HR9 2
        have f0 := tfrozen_blk HR9 0
        have f1 := tfrozen_blk HR9 1
        have f2 := tfrozen_blk HR9 2
        simp only [List.getElem?_toArray, List.getElem?_cons_zero, List.getElem?_cons_succ] at r0 r1 r2
        go_wp2_with fail
        rw [← rs3_eq]
        generalize rs3 w7 (g + 1) (.int .i64 0) (.int .i64 0) (.slice none 0 0) = w9 at *
        have z0 := tcell_blk HV 0
        have z1 := tcell_blk HV 1
        have z2 := tcell_blk HV 2
        simp only [List.getElem?_toArray, List.getElem?_cons_zero, List.getElem?_cons_succ] at z0 z1 z2
        exact bodyPost_ret (v := .tuple #[.agg #[.int .i64 0, .int .i64 0, .slice none 0 0], .int .i64 er]) (by simp [results, Try.results10, go_sem, z0, z1, z2]) rfl ⟨_, _, _, _, _, _, (.mk 0 0 []), rfl, Or.inr ⟨HCE.out, Or.inr (Or.inr ⟨HRR.out, x, HX.out.1, HX.out.2, HER.out.symm, by rw [if_neg he]⟩)⟩, tx_zero, HBF.out⟩
    · simp only [show ((2 : Nat) : Int) = 2 from rfl]
      have HR9 := HO4.out.rs
      have HBW : Hid (Below w.heap.size w w4) := HO4.out.gb.below
      rw [HGG.out] at HR9
      have HV := rs3_blk HR9 (.int .i64 0) (.int .i64 0) (.slice none 0 0)
      have HBF : Hid (Below w.heap.size w (rs3 w4 (g + 1) (.int .i64 0) (.int .i64 0) (.slice none 0 0))) := ((HBW.out.setCell (p := ⟨g + 1, 0, none⟩) (by have := HGG.out; show _ ≤ g + 1; omega) _).setCell (p := ⟨g + 1, 1, none⟩) (by have := HGG.out; show _ ≤ g + 1; omega) _).setCell (p := ⟨g + 1, 2, none⟩) (by have := HGG.out; show _ ≤ g + 1; omega) _
      have r0 := tcell_blk HR9 0
      have r1 := tcell_blk HR9 1
      have r2 := tcell_blk HR9 2
      have f0 := tfrozen_blk HR9 0
      have f1 := tfrozen_blk HR9 1
      have f2 := tfrozen_blk HR9 2
      simp only [List.getElem?_toArray, List.getElem?_cons_zero, List.getElem?_cons_succ] at r0 r1 r2
      go_wp2_with fail
      rw [← rs3_eq]
      generalize rs3 w4 (g + 1) (.int .i64 0) (.int .i64 0) (.slice none 0 0) = w9 at *
      have z0 := tcell_blk HV 0
      have z1 := tcell_blk HV 1
      have z2 := tcell_blk HV 2
      simp only [List.getElem?_toArray, List.getElem?_cons_zero, List.getElem?_cons_succ] at z0 z1 z2
      exact bodyPost_ret (v := .tuple #[.agg #[.int .i64 0, .int .i64 0, .slice none 0 0], .int .i64 12]) (by simp [results, Try.results10, go_sem, z0, z1, z2]) rfl ⟨_, _, _, _, _, _, (.mk 0 0 []), rfl, Or.inr ⟨HCE.out, Or.inr (Or.inl ⟨HRR.out, rfl, rfl⟩)⟩, tx_zero, HBF.out⟩
  · have hb : (ce != 0) = true := by simp; exact hz
    have HR9 := HO2.out.rs
    have HBW : Hid (Below w.heap.size w w2) := HO2.out.gb.below
    rw [HGG.out] at HR9
    have HV := rs3_blk HR9 (.int .i64 0) (.int .i64 0) (.slice none 0 0)
    have HBF : Hid (Below w.heap.size w (rs3 w2 (g + 1) (.int .i64 0) (.int .i64 0) (.slice none 0 0))) := ((HBW.out.setCell (p := ⟨g + 1, 0, none⟩) (by have := HGG.out; show _ ≤ g + 1; omega) _).setCell (p := ⟨g + 1, 1, none⟩) (by have := HGG.out; show _ ≤ g + 1; omega) _).setCell (p := ⟨g + 1, 2, none⟩) (by have := HGG.out; show _ ≤ g + 1; omega) _
    have r0 := tcell_blk HR9 0
    have r1 := tcell_blk HR9 1
    have r2 := tcell_blk HR9 2
    have f0 := tfrozen_blk HR9 0
    have f1 := tfrozen_blk HR9 1
    have f2 := tfrozen_blk HR9 2
    simp only [List.getElem?_toArray, List.getElem?_cons_zero, List.getElem?_cons_succ] at r0 r1 r2
    go_wp2_with fail
    rw [← rs3_eq]
    generalize rs3 w2 (g + 1) (.int .i64 0) (.int .i64 0) (.slice none 0 0) = w9 at *
    have z0 := tcell_blk HV 0
    have z1 := tcell_blk HV 1
    have z2 := tcell_blk HV 2
    simp only [List.getElem?_toArray, List.getElem?_cons_zero, List.getElem?_cons_succ] at z0 z1 z2
    exact bodyPost_ret (v := .tuple #[.agg #[.int .i64 0, .int .i64 0, .slice none 0 0], .int .i64 ce]) (by simp [results, Try.results10, go_sem, z0, z1, z2]) rfl ⟨_, _, _, _, _, _, (.mk 0 0 []), rfl, Or.inl ⟨by rw [HCE.out]; exact hz, HCE.out.symm, rfl⟩, tx_zero, HBF.out⟩
end Go.Proofs.Ytpfehghicaaghaa
