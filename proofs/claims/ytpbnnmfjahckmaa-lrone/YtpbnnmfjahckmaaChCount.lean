/-
  The contracts of count.Trees and count.Begins: the number of trees, up to two; whether some tree begins so.
-/
import Derived.Test.YtpbnnmfjahckmaaChTrees
namespace Go.Proofs.Ytpbnnmfjahckmaa
open Go.RowKit
open Cg

open Classical in
noncomputable def cTr (t n : Int) (ps : List Pd) (ws : List Int) : Nat := if ckW t n ps ws = 0 then cnt ps ws 0 0 ws.length else 0
open Classical in
set_option maxHeartbeats 3200000 in
set_option maxRecDepth 20000 in
theorem CTrees_any (t n : Int) (pv wv : Value) (ps : List Pd) (ws : List Int) (w : World) (hp : Pds w pv ps) (hw : Ints w wv ws) :
    Calls Try.prog 16 #[.agg #[.int .i64 t, .int .i64 n, pv], wv] w fun e w' => e = .returned (.tuple #[.int .i64 ((cTr t n ps ws : Nat) : Int), .int .i64 (ckW t n ps ws)]) ∧ Below w.heap.size w w' := by
  have HG0 : Hid (Gb w w.heap.size t n pv ps (w.alloc (Obj.cells #[.int .i64 t, .int .i64 n, pv] 24))) := Gb.box hp t n
  have HI : Hid (Ints w wv ws) := hw
  have HP : Hid (Pds w pv ps) := hp
  obtain ⟨ga, gc, rfl, -, -⟩ := hp
  obtain ⟨wao, wc, rfl, hwm, -⟩ := hw
  obtain ⟨ce, HCE⟩ : ∃ ce, Hid (ckW t n ps ws = ce) := ⟨_, (rfl : ckW t n ps ws = _)⟩
  obtain ⟨r, HR⟩ : ∃ r, Hid (cTr t n ps ws = r) := ⟨_, (rfl : cTr t n ps ws = _)⟩
  obtain ⟨gm, HGM⟩ : ∃ gm, Hid (ps.length = gm) := ⟨_, (rfl : ps.length = _)⟩
  obtain ⟨wm, HWM⟩ : ∃ wm, Hid (ws.length = wm) := ⟨_, (rfl : ws.length = _)⟩
  rw [HGM.out] at HG0 HP ⊢
  rw [HWM.out] at HI ⊢
  rw [HCE.out, HR.out]
  go_enter Try.func16, Try.ntmps16
  go_upto_region 1 with fail
  obtain ⟨g, HGG⟩ : ∃ g, Hid (w.heap.size = g) := ⟨_, (rfl : w.heap.size = _)⟩
  generalize w.alloc (Obj.cells #[.int .i64 t, .int .i64 n, .slice ga gm gc] 24) = w1 at HG0 ⊢
  rw [HGG.out] at HG0 ⊢
  have c0 := HG0.out.c0
  have c1 := HG0.out.c1
  have c2 := HG0.out.c2
  have hc := check_any t n _ _ ps ws w1 HG0.out.pds (HI.out.below HG0.out.below)
  go_wp2_with fail
  rw [HCE.out] at hc
  refine hc.mono ?_
  rintro _ w2 ⟨rfl, hb2⟩
  have HG2 : Hid (Gb w g t n (.slice ga gm gc) ps w2) := HG0.out.next hb2
  clear hc hb2 c0 c1 c2 HG0
  by_cases hz : ce = 0
  · subst hz
    have c0 := HG2.out.c0
    have c1 := HG2.out.c1
    have c2 := HG2.out.c2
    obtain ⟨hn, hrc, hrg⟩ := rc_of HG2.out.pds (HI.out.below HG2.out.below) HCE.out
    generalize n.toNat = nn at hn hrc hrg
    subst hn
    have hcall := chartOf_any t nn _ _ ps ws false w2 hrc
    have HRC : Hid (Rc w2 t nn (.slice ga gm gc) (.slice wao wm wc) ps ws) := hrc
    clear hrg hrc
    go_wp2_with fail
    refine hcall.mono ?_
    rintro _ w3 ⟨y, rfl, N, B, hch, hls, -⟩
    have HB3 : Hid (Below w.heap.size w w3) := HG2.out.below.trans (hch.bel.mono HG2.out.below.size)
    have hn2 : N 0 0 ws.length ≤ 2 := by
      rw [hls.fix 0 0 ws.length (by omega) (by omega)]; exact stm_le
    have hwh := whole_any3 w2 y t nn _ _ ps ws false N B w3 HRC.out hch hn2
    have hrx : N 0 0 ws.length = r := by
      rw [← HR.out, lst_cnt HRC.out.kd hls]; unfold cTr; rw [if_pos HCE.out]
    rw [hrx] at hwh hn2
    clear hrx
    clear hcall hch hls c0 c1 c2
    go_wp2_with fail
    refine hwh.mono ?_
    rintro _ w4 ⟨rfl, hb4⟩
    have HB4 : Hid (Below w.heap.size w w4) := HB3.out.trans (hb4.mono HB3.out.size)
    clear hwh hb4
    go_wp2_with fail
    go_ret2
    exact ⟨by simp, HB4.out⟩
  · obtain rfl : r = 0 := by
      rw [← HR.out]; unfold cTr
      rw [if_neg (by rw [HCE.out]; exact hz)]
    have hb : (ce != 0) = true := by simp; exact hz
    go_wp2_with fail
    go_ret2
    exact ⟨by simp, HG2.out.below⟩

end Go.Proofs.Ytpbnnmfjahckmaa
