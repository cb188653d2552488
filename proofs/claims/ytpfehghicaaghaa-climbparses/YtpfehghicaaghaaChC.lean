/-
  The contracts of count.Trees and count.Begins: the number of trees, up to two; whether some tree begins so. How many trees a word of brackets has, plainly; and what begins so. Rows of numbers that are handed in, or laid.
-/
import Derived.Test.YtpfehghicaaghaaChTrees
import Derived.Test.YtpfehghicaaghaaFcBrack
namespace Go.Proofs.Ytpfehghicaaghaa
open Go.RowKit
open Cg

open Classical in
noncomputable def cTr (t n : Int) (ps : List Pd) (ws : List Int) : Nat := if ckW t n ps ws = 0 then cnt ps ws 0 0 ws.length else 0
open Classical in
noncomputable def cBg (t n : Int) (ps : List Pd) (ws : List Int) : Bool := decide (ckW t n ps ws = 0 ∧ Bgn ps ws (2, 0) 0)
theorem cTr_le {t n : Int} {ps : List Pd} {ws : List Int} : cTr t n ps ws ≤ 2 := by
  unfold cTr; split
  · exact cc_le _
  · omega

set_option maxHeartbeats 3200000 in
set_option maxRecDepth 20000 in
theorem CTrees_any (t n : Int) (pv wv : Value) (ps : List Pd) (ws : List Int) (w : World) (hp : Pds w pv ps) (hw : Ints w wv ws) :
    Calls Try.prog 9 #[.agg #[.int .i64 t, .int .i64 n, pv], wv] w fun e w' => e = .returned (.tuple #[.int .i64 ((cTr t n ps ws : Nat) : Int), .int .i64 (ckW t n ps ws)]) ∧ Below w.heap.size w w' := by
  have HG0 : Hid (Gb w w.heap.size t n pv ps (w.alloc (Obj.cells #[.int .i64 t, .int .i64 n, pv] 24))) := Gb.box hp t n
  have HI : Hid (Ints w wv ws) := hw
  have HP : Hid (Pds w pv ps) := hp
  obtain ⟨ga, gc, rfl, -, -⟩ := hp
  obtain ⟨wao, wc, rfl, hwm, -⟩ := hw
  obtain ⟨ce, HCE⟩ : ∃ ce, Hid (ckW t n ps ws = ce) := ⟨_, (rfl : ckW t n ps ws = _)⟩
  obtain ⟨r, HR⟩ : ∃ r, Hid (cTr t n ps ws = r) := ⟨_, (rfl : cTr t n ps ws = _)⟩
  obtain ⟨gm, HGM⟩ : ∃ gm, Hid (ps.length = gm) := ⟨_, (rfl : ps.length = _)⟩
  obtain ⟨wm, HWM⟩ : ∃ wm, Hid (ws.length = wm) := ⟨_, (rfl : ws.length = _)⟩
  rw [HGM.out] at HG0 HP ⊢
  rw [HWM.out] at HI ⊢
  rw [HCE.out, HR.out]
  go_enter Try.func9, Try.ntmps9
  go_upto_region 1 with fail
  obtain ⟨g, HGG⟩ : ∃ g, Hid (w.heap.size = g) := ⟨_, (rfl : w.heap.size = _)⟩
  generalize w.alloc (Obj.cells #[.int .i64 t, .int .i64 n, .slice ga gm gc] 24) = w1 at HG0 ⊢
  rw [HGG.out] at HG0 ⊢
  have c0 := HG0.out.c0
  have c1 := HG0.out.c1
  have c2 := HG0.out.c2
  have hc := check_any t n _ _ ps ws w1 HG0.out.pds (HI.out.below HG0.out.below)
  go_wp2_with fail
  rw [HCE.out] at hc
  refine hc.mono ?_
  rintro _ w2 ⟨rfl, hb2⟩
  have HG2 : Hid (Gb w g t n (.slice ga gm gc) ps w2) := HG0.out.next hb2
  clear hc hb2 c0 c1 c2 HG0
  by_cases hz : ce = 0
  · subst hz
    have c0 := HG2.out.c0
    have c1 := HG2.out.c1
    have c2 := HG2.out.c2
    obtain ⟨hn, hrc, hrg⟩ := rc_of HG2.out.pds (HI.out.below HG2.out.below) HCE.out
    generalize n.toNat = nn at hn hrc hrg
    subst hn
    have hcall := chartOf_any t nn _ _ ps ws false w2 hrc
    have HRC : Hid (Rc w2 t nn (.slice ga gm gc) (.slice wao wm wc) ps ws) := hrc
    clear hrg hrc
    go_wp2_with fail
    refine hcall.mono ?_
    rintro _ w3 ⟨y, rfl, N, B, hch, hls, -⟩
    have HB3 : Hid (Below w.heap.size w w3) := HG2.out.below.trans (hch.bel.mono HG2.out.below.size)
    have hn2 : N 0 0 ws.length ≤ 2 := by
      rw [hls.fix 0 0 ws.length (by omega) (by omega)]; exact stm_le
    have hwh := whole_any3 w2 y t nn _ _ ps ws false N B w3 HRC.out hch hn2
    have hrx : N 0 0 ws.length = r := by
      rw [← HR.out, lst_cnt HRC.out.kd hls]; unfold cTr; rw [if_pos HCE.out]
    rw [hrx] at hwh hn2
    clear hrx
    clear hcall hch hls c0 c1 c2
    go_wp2_with fail
    refine hwh.mono ?_
    rintro _ w4 ⟨rfl, hb4⟩
    have HB4 : Hid (Below w.heap.size w w4) := HB3.out.trans (hb4.mono HB3.out.size)
    clear hwh hb4
    go_wp2_with fail
    go_ret2
    exact ⟨by simp, HB4.out⟩
  · obtain rfl : r = 0 := by
      rw [← HR.out]; unfold cTr
      rw [if_neg (by rw [HCE.out]; exact hz)]
    have hb : (ce != 0) = true := by simp; exact hz
    go_wp2_with fail
    go_ret2
    exact ⟨by simp, HG2.out.below⟩

set_option maxHeartbeats 3200000 in
set_option maxRecDepth 20000 in
theorem CBegins_any (t n : Int) (pv wv : Value) (ps : List Pd) (ws : List Int) (w : World) (hp : Pds w pv ps) (hw : Ints w wv ws) :
    Calls Try.prog 11 #[.agg #[.int .i64 t, .int .i64 n, pv], wv] w fun e w' => e = .returned (.tuple #[.bool (cBg t n ps ws), .int .i64 (ckW t n ps ws)]) ∧ Below w.heap.size w w' := by
  have HG0 : Hid (Gb w w.heap.size t n pv ps (w.alloc (Obj.cells #[.int .i64 t, .int .i64 n, pv] 24))) := Gb.box hp t n
  have HI : Hid (Ints w wv ws) := hw
  have HP : Hid (Pds w pv ps) := hp
  obtain ⟨ga, gc, rfl, -, -⟩ := hp
  obtain ⟨wao, wc, rfl, hwm, -⟩ := hw
  obtain ⟨ce, HCE⟩ : ∃ ce, Hid (ckW t n ps ws = ce) := ⟨_, (rfl : ckW t n ps ws = _)⟩
  obtain ⟨r, HR⟩ : ∃ r, Hid (cBg t n ps ws = r) := ⟨_, (rfl : cBg t n ps ws = _)⟩
  obtain ⟨gm, HGM⟩ : ∃ gm, Hid (ps.length = gm) := ⟨_, (rfl : ps.length = _)⟩
  obtain ⟨wm, HWM⟩ : ∃ wm, Hid (ws.length = wm) := ⟨_, (rfl : ws.length = _)⟩
  rw [HGM.out] at HG0 HP ⊢
  rw [HWM.out] at HI ⊢
  rw [HCE.out, HR.out]
  go_enter Try.func11, Try.ntmps11
  go_upto_region 1 with fail
  obtain ⟨g, HGG⟩ : ∃ g, Hid (w.heap.size = g) := ⟨_, (rfl : w.heap.size = _)⟩
  generalize w.alloc (Obj.cells #[.int .i64 t, .int .i64 n, .slice ga gm gc] 24) = w1 at HG0 ⊢
  rw [HGG.out] at HG0 ⊢
  have c0 := HG0.out.c0
  have c1 := HG0.out.c1
  have c2 := HG0.out.c2
  have hc := check_any t n _ _ ps ws w1 HG0.out.pds (HI.out.below HG0.out.below)
  go_wp2_with fail
  rw [HCE.out] at hc
  refine hc.mono ?_
  rintro _ w2 ⟨rfl, hb2⟩
  have HG2 : Hid (Gb w g t n (.slice ga gm gc) ps w2) := HG0.out.next hb2
  clear hc hb2 c0 c1 c2 HG0
  by_cases hz : ce = 0
  · subst hz
    have c0 := HG2.out.c0
    have c1 := HG2.out.c1
    have c2 := HG2.out.c2
    obtain ⟨hn, hrc, hrg⟩ := rc_of HG2.out.pds (HI.out.below HG2.out.below) HCE.out
    generalize n.toNat = nn at hn hrc hrg
    subst hn
    have hcall := chartOf_any t nn _ _ ps ws true w2 hrc
    have HRC : Hid (Rc w2 t nn (.slice ga gm gc) (.slice wao wm wc) ps ws) := hrc
    clear hrg hrc
    go_wp2_with fail
    refine hcall.mono ?_
    rintro _ w3 ⟨y, rfl, N, B, hch, hls, -⟩
    have HB3 : Hid (Below w.heap.size w w3) := HG2.out.below.trans (hch.bel.mono HG2.out.below.size)
    have hn2 : N 0 0 ws.length ≤ 2 := by
      rw [hls.fix 0 0 ws.length (by omega) (by omega)]; exact stm_le
    have hwh := whole_any3 w2 y t nn _ _ ps ws true N B w3 HRC.out hch hn2
    have HRR : Hid (r = decide (0 < N 0 0 ws.length)) := by
      show _ = _
      have := lst_bgn HRC.out.kd hls 0 (i := 0) (by omega)
      rw [← HR.out]; unfold cBg
      by_cases e : Bgn ps ws (2, 0) 0
      · have h1 := this.2 e; simp [HCE.out, e]; omega
      · have h1 : ¬ 1 ≤ N 0 0 ws.length := fun h => e (this.1 h)
        simp [e]; omega
    generalize N 0 0 ws.length = x at hwh hn2 HRR
    clear hcall hch hls c0 c1 c2
    go_wp2_with fail
    refine hwh.mono ?_
    rintro _ w4 ⟨rfl, hb4⟩
    have HB4 : Hid (Below w.heap.size w w4) := HB3.out.trans (hb4.mono HB3.out.size)
    clear hwh hb4
    by_cases hx : 0 < x
    · obtain rfl : r = true := by rw [HRR.out]; simp [hx]
      have hx2 : (0 : Int) < (x : Int) := by omega
      go_wp2_with fail
      go_ret2
      exact ⟨by simp, HB4.out⟩
    · obtain rfl : r = false := by rw [HRR.out]; simp [hx]
      have hx2 : ¬ ((0 : Int) < (x : Int)) := by omega
      go_wp2_with fail
      go_ret2
      exact ⟨by simp, HB4.out⟩
  · obtain rfl : r = false := by
      rw [← HR.out]; unfold cBg
      simp; intro h; rw [HCE.out] at h; exact absurd h hz
    have hb : (ce != 0) = true := by simp; exact hz
    go_wp2_with fail
    go_ret2
    exact ⟨by simp, HG2.out.below⟩
end Go.Proofs.Ytpfehghicaaghaa

namespace Go.Proofs.Ytpfehghicaaghaa
open Go.ChangeShapes Go.WideShapes Go.ChangeAt Go.RowKit
open Cg

def brT (l : List (Nat × Nat)) : Tb := fun a i j => if a = 0 ∧ (i, j) ∈ l then 1 else 0
theorem brs_le {w : List Int} {l : List (Nat × Nat)} (h1 : ∀ p ∈ l, p.1 ≤ p.2 ∧ p.2 ≤ w.length) (h : ∀ i, i < w.length + 1 → ∀ j, j < w.length + 1 → stp brs w (brT l) 0 i j ≤ brT l 0 i j) (a : Int) (i j : Nat) : cnt brs w a i j ≤ brT l a i j := by
  refine cnt_le (fun a i j => ?_) a i j
  by_cases e : a = 0
  · subst e
    by_cases o : j < i ∨ w.length < j
    · rw [stp_out (fun a i j h => ?_) o]
      · exact Nat.zero_le _
      · unfold brT
        rw [if_neg]
        rintro ⟨-, hm⟩
        have := h1 _ hm
        simp at this
        omega
    · exact h i (by omega) j (by omega)
  · have : stp brs w (brT l) a i j = 0 := by
      unfold stp
      rw [sm_zero fun q hq => ?_]
      · rfl
      · rw [if_neg]
        intro e2
        have : q = 0 ∨ q = 1 := by simp [brs] at hq; omega
        rcases this with rfl | rfl
        · exact e e2.symm
        · exact e e2.symm
    rw [this]; exact Nat.zero_le _
def lf1 (k : Int) : T := .mk (-1) k []
def em1 : T := .mk 0 0 []
theorem brs_one {w : List Int} {l : List (Nat × Nat)} (h1 : ∀ p ∈ l, p.1 ≤ p.2 ∧ p.2 ≤ w.length) (h : ∀ i, i < w.length + 1 → ∀ j, j < w.length + 1 → stp brs w (brT l) 0 i j ≤ brT l 0 i j) (t : T) (s0 : sh brs t (2, 0) = true) (k0 : tk t = nums 0 w.length) (y0 : yl brs t (2, 0) = w) : cnt brs w 0 0 w.length = 1 := by
  have h2 := brs_le h1 h 0 0 w.length
  have h3 : 1 ≤ cnt brs w 0 0 w.length := cc_some.2 ⟨t, sp_whole.2 ⟨s0, k0, y0⟩⟩
  have h4 : brT l 0 0 w.length ≤ 1 := by unfold brT; split <;> omega
  omega
theorem chk_brs : chk 2 1 brs = 0 := by decide
theorem ckW_brs {w : List Int} (h1 : w.length ≤ 20) (h : w.all (okN 2) = true) : ckW 2 1 brs w = 0 := by
  unfold ckW; rw [if_pos chk_brs, if_neg (by omega), if_pos h]
theorem cTr_0101 : cTr 2 1 brs [0, 1, 0, 1] = 1 := by
  unfold cTr
  rw [if_pos (ckW_brs (by decide) (by decide))]
  refine brs_one (l := [(0, 0), (1, 1), (2, 2), (3, 3), (4, 4), (0, 2), (2, 4), (0, 4)]) (by decide) (by decide) (.mk 1 0 [lf1 0, em1, lf1 1, .mk 1 0 [lf1 2, em1, lf1 3, em1]]) ?_ ?_ ?_
  · simp [sh, shL, lf1, em1, isPr, headOf, bodyOf, brs]
  · simp [tk, tkL, lf1, em1, nums]; try decide
  · simp [yl, ylL, lf1, em1, bodyOf, brs]
theorem cTr_01 : cTr 2 1 brs [0, 1] = 1 := by
  unfold cTr
  rw [if_pos (ckW_brs (by decide) (by decide))]
  refine brs_one (l := [(0, 0), (1, 1), (2, 2), (0, 2)]) (by decide) (by decide) (.mk 1 0 [lf1 0, em1, lf1 1, em1]) ?_ ?_ ?_
  · simp [sh, shL, lf1, em1, isPr, headOf, bodyOf, brs]
  · simp [tk, tkL, lf1, em1, nums]; try decide
  · simp [yl, ylL, lf1, em1, bodyOf, brs]
theorem cTr_nil : cTr 2 1 brs [] = 1 := by
  unfold cTr
  rw [if_pos (ckW_brs (by decide) (by decide))]
  refine brs_one (l := [(0, 0)]) (by decide) (by decide) em1 ?_ ?_ ?_
  · simp [sh, shL, em1, isPr, headOf, bodyOf, brs]
  · simp [tk, tkL, em1, nums]
  · simp [yl, ylL, em1]
open Classical in
theorem cBg_00 : cBg 2 1 brs [0, 0] = true := by
  unfold cBg
  refine decide_eq_true ⟨ckW_brs (by decide) (by decide), .mk 1 0 [lf1 0, .mk 1 0 [lf1 1, em1, lf1 2, em1], lf1 3, em1], ?_, ?_⟩
  · simp [sh, shL, lf1, em1, isPr, headOf, bodyOf, brs]
  · simp [yl, ylL, lf1, em1, bodyOf, brs]
/-! A row of numbers that is handed in. -/
section
variable {H : Type} {enc : TypeId × Value → H}
theorem open_ints_cells {W : World} {fuel : Nat} {cs : List Value} {y : DataW H × List MemPlace} (hf : DataW.trod enc Try.prog W 0 (fun _ => true) true fuel 25 cs = some y) : ∃ v l, cs = [v] ∧ Ints W v l := by
  obtain ⟨ao, n, cap, rfl, hm, h⟩ := open_seq Try.underlying25 kcells3 (by omega) hf
  rcases h with h | ⟨b, o, h1, h2, h3⟩
  · exact ⟨_, [], rfl, ao, cap, by rw [h]; rfl, by simp, Or.inl rfl⟩
  · obtain ⟨l, g1, g2⟩ := list_of n (fun i (z : Int) => W.cell? ⟨b, o + i, none⟩ = some (.int .i64 z)) fun i hi => by
      obtain ⟨fu, cs', y', k1, k2, k3⟩ := h3 i hi
      match cs', k2 with
      | [x0], _ =>
        obtain ⟨z0, e0, _, _⟩ := DataW.trod_int Try.underlying3 k3
        simp at e0
        subst e0
        exact ⟨z0, by simpa using k1 0 (by omega)⟩
    exact ⟨_, l, rfl, ao, cap, by rw [g1], by omega, Or.inr ⟨b, o, h1, h2, g2⟩⟩
set_option maxRecDepth 20000 in
theorem open_intsv {W : World} {r : Reach} {b0 : Nat} {v : Value} {d : DataW H} {p : List MemPlace} (hv : Value.okWide Try.prog W r b0 25 v) (h : DataW.Trod enc Try.prog W 0 (fun _ => true) true 25 v d p) : ∃ l, Ints W v l := by
  obtain ⟨fuel, hf⟩ := h
  have hc : v.cells = #[v] := by
    obtain ⟨a, n, c, rfl⟩ := okWide_slice Try.underlying25 hv
    rfl
  rw [hc] at hf
  obtain ⟨u, l, e, hl⟩ := open_ints_cells hf
  cases e
  exact ⟨l, hl⟩
end
/-- A row that was laid. -/
theorem ints_blk {W : World} {g : Nat} {l : List Int} (h : W.heap[g]? = some (Obj.cells (l.map (Value.int .i64)).toArray 3)) (hm : l.length ≤ 9223372036854775807) : Ints W (.slice (some ⟨g, 0, none⟩) l.length l.length) l := by
  refine ⟨_, _, rfl, hm, Or.inr ⟨g, 0, rfl, heap_lt3 h, fun i hi => ?_⟩⟩
  rw [Nat.zero_add, tcell_blk h i]
  simp [List.getElem?_eq_getElem hi]
end Go.Proofs.Ytpfehghicaaghaa
